package record_test

import (
	"math/rand"
	"slices"
	"testing"

	"windrose/api"
	"windrose/record"
)

// agree asks that who is At a spot is who stands there, and that Rows tells the same.
func agree(t *testing.T, name string, r api.Records) {
	t.Helper()
	many := 0
	for index := 1; index <= len(r.Spots)+1; index++ {
		s, ok := record.At(r, index)
		if !ok {
			continue
		}
		many++
		if who, ok := record.Who(r, s); who != index || !ok {
			t.Errorf("%s: %d is at %v, where %d is", name, index, s, who)
		}
		if !slices.Contains(record.Rows(r, s.Table), index) {
			t.Errorf("%s: %d is not in %v", name, index, s)
		}
	}
	tables := tablesOf(r)
	slices.Sort(tables)
	for _, table := range slices.Compact(tables) {
		many -= len(record.Rows(r, table))
	}
	if many != 0 {
		t.Errorf("%s: %d are told by their tables, or are not", name, many)
	}
}

// P10.5: who is at where an index is At is that index.
func TestAgree(t *testing.T) {
	for name, r := range good() {
		agree(t, name, r)
	}
}

// P10.5: dropped, and put back, they are the same; put, and dropped, if it stood nowhere.
func TestBack(t *testing.T) {
	for name, r := range good() {
		for index, s := range placesOf(r) {
			next, e := record.Drop(r, index)
			next = must(t, next, e)
			if at, ok := record.At(next, index); ok || !isNowhere(at) {
				t.Errorf("%s: %d is at %v", name, index, at)
			}
			next, e = record.Put(next, index, s)
			if next = must(t, next, e); !record.Same(next, r) {
				t.Errorf("%s: %d: %v", name, index, next)
			}
		}
		for index := 1; index <= len(r.Spots)+3; index++ {
			if _, ok := record.At(r, index); ok {
				continue
			}
			next, e := record.Put(r, index, at(77, 7))
			next, e = record.Drop(must(t, next, e), index)
			if next = must(t, next, e); !record.Same(next, r) {
				t.Errorf("%s: %d: %v", name, index, next)
			}
		}
	}
	next, e := record.Drop(full(), api.MaxIndex)
	next, e = record.Put(must(t, next, e), api.MaxIndex, at(5, 0))
	if !record.Same(must(t, next, e), full()) {
		t.Error("of all indexes")
	}
}

// taken asks that the rows of a table are all taken, by these.
func taken(t *testing.T, r api.Records, table int, who []int) {
	t.Helper()
	if l := record.Rows(r, table); !slices.Equal(l, who) {
		t.Fatal(table, l, who)
	}
	for row, index := range who {
		if s, ok := record.At(r, index); !ok || s != at(table, row) {
			t.Fatal(index, s, ok)
		}
	}
}

// swappedOut is a row of numbers, the last one in the place of one.
func swappedOut(l []int, row int) []int {
	l = slices.Clone(l)
	l[row] = l[len(l)-1]
	return l[:len(l)-1]
}

// P10.5: where all rows are taken, they are so behind each Swap, and others stand where they did.
func TestSwapLeavesNoGap(t *testing.T) {
	other := numbers(2, 9)
	for seed := range 50 {
		random := rand.New(rand.NewSource(int64(seed)))
		who := random.Perm(20)[:1+seed%12]
		var r api.Records
		for row := range who {
			who[row] += 10
			next, e := record.Put(r, who[row], at(3, row))
			r = must(t, next, e)
		}
		for row, index := range other {
			next, e := record.Put(r, index, at(4, row))
			r = must(t, next, e)
		}
		for len(who) > 0 {
			row := random.Intn(len(who))
			next, e := record.Swap(r, who[row], len(who)-1)
			r, who = must(t, next, e), swappedOut(who, row)
			taken(t, r, 3, who)
			taken(t, r, 4, other)
		}
		if len(r.Spots) != 9 {
			t.Fatal(r)
		}
	}
}

// world is records, and what they should be: who stands in each row of some tables that have no gaps.
type world struct {
	r      api.Records
	tables [4][]int
}

// find tells where an index stands in the tables.
func (w *world) find(index int) (table, row int) {
	for table, l := range w.tables {
		if row := slices.Index(l, index); row >= 0 {
			return table, row
		}
	}
	return -1, -1
}

// step does one thing, at random, to both.
func (w *world) step(t *testing.T, random *rand.Rand) {
	t.Helper()
	index, to := 1+random.Intn(25), random.Intn(4)
	table, row := w.find(index)
	last := len(w.tables[to])
	switch {
	case table < 0:
		next, e := record.Put(w.r, index, at(to+1, last))
		w.r, w.tables[to] = must(t, next, e), append(w.tables[to], index)
	case random.Intn(3) == 0 && row == len(w.tables[table])-1 && to != table:
		// The last one of a table is put elsewhere, and leaves no gap.
		next, e := record.Put(w.r, index, at(to+1, last))
		w.r, w.tables[to] = must(t, next, e), append(w.tables[to], index)
		w.tables[table] = w.tables[table][:row]
	case random.Intn(4) == 0 && row == len(w.tables[table])-1:
		next, e := record.Drop(w.r, index)
		w.r, w.tables[table] = must(t, next, e), w.tables[table][:row]
	case random.Intn(2) == 0:
		next, e := record.Swap(w.r, index, len(w.tables[table])-1)
		w.r, w.tables[table] = must(t, next, e), swappedOut(w.tables[table], row)
	case last > 0 && to != table:
		if next, e := record.Put(w.r, index, at(to+1, random.Intn(last))); e != api.ErrThere || !isZero(next) {
			t.Fatal(next, e)
		}
	}
}

// P10.2 to P10.5: whatever is done, records tell what tables without gaps would.
func TestLikeTables(t *testing.T) {
	for seed := range 20 {
		random, w := rand.New(rand.NewSource(int64(seed))), new(world)
		most := 0
		for range 400 {
			w.step(t, random)
			for table, who := range w.tables {
				taken(t, w.r, table+1, who)
				most = max(most, len(who))
			}
			for index := 1; index <= 26; index++ {
				table, _ := w.find(index)
				if _, ok := record.At(w.r, index); ok != (table >= 0) {
					t.Fatal(seed, index, w.r)
				}
			}
		}
		if most < 3 {
			t.Error(seed, most)
		}
		agree(t, "a random one", w.r)
	}
}

// withRoom is the records, with room behind their end in which somebody stands.
func withRoom(r api.Records) api.Records {
	return of(append(slices.Clone(r.Spots), at(8, 1), at(0, 0), at(8, 2), at(8, 3))[:len(r.Spots)]...)
}

// each does all that is done to records, and hands on what is answered.
func each(r api.Records, index, number int, s api.Spot, answer func(name string, l []api.Spot, who []int)) {
	record.Check(r)
	record.Same(r, r)
	record.At(r, index)
	record.Who(r, s)
	answer("rows", nil, record.Rows(r, number))
	put, _ := record.Put(r, index, s)
	answer("put", behind(put), nil)
	drop, _ := record.Drop(r, index)
	answer("drop", behind(drop), nil)
	swap, _ := record.Swap(r, index, number)
	answer("swap", behind(swap), nil)
}

// P10.1 to P10.4, by R3: what is handed in stays as it is, the room behind its end, too; what is answered is new memory.
func TestMemory(t *testing.T) {
	for name, r := range good() {
		r = withRoom(r)
		was := slices.Clone(behind(r))
		for index := 0; index <= len(r.Spots)+2; index++ {
			for number := range 6 {
				for _, s := range append(takenOf(r), at(1, 0), at(9, 9), at(0, 0)) {
					each(r, index, number, s, func(what string, l []api.Spot, who []int) {
						for place := range l {
							l[place] = at(6, 6)
						}
						clear(who[:cap(who)])
						if !slices.Equal(behind(r), was) {
							t.Fatalf("%s: %s: %d %d %v: what was handed in changed", name, what, index, number, s)
						}
					})
				}
			}
		}
	}
}

// R3: what was handed in is not kept: changed later, it changes no answer; nor does one answer change another one.
func TestNotKept(t *testing.T) {
	r := of(at(1, 0), at(1, 1), at(2, 0))
	put, _ := record.Put(r, 2, at(1, 1))
	further, _ := record.Put(r, 4, at(3, 0))
	drop, _ := record.Drop(r, 3)
	swap, _ := record.Swap(r, 1, 1)
	rows := record.Rows(r, 1)
	clear(behind(r))
	if !same(put, of(at(1, 0), at(1, 1), at(2, 0))) || !same(further, of(at(1, 0), at(1, 1), at(2, 0), at(3, 0))) {
		t.Error(put, further)
	}
	if !same(drop, of(at(1, 0), at(1, 1))) || !same(swap, of(at(0, 0), at(1, 0), at(2, 0))) || !slices.Equal(rows, numbers(1, 2)) {
		t.Error(drop, swap, rows)
	}
	// What is cut behind the last one has no room behind it that could be taken for spots.
	if more := append(drop.Spots, at(4, 4)); &more[0] == &drop.Spots[0] {
		t.Error("there is room behind what was dropped")
	}
}

// R5: the same is told of the same, however often, and by whichever way it came.
func TestTwice(t *testing.T) {
	for name, r := range good() {
		var other api.Records
		p := placesOf(r)
		for index := len(r.Spots); index >= 1; index-- {
			if s, ok := p[index]; ok {
				next, e := record.Put(other, index, s)
				other = must(t, next, e)
			}
		}
		if !record.Same(other, r) {
			t.Errorf("%s: %v", name, other)
		}
		for _, table := range tablesOf(r) {
			if !slices.Equal(record.Rows(r, table), record.Rows(other, table)) {
				t.Errorf("%s: %d", name, table)
			}
		}
	}
}
