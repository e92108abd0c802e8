package record_test

import (
	"math"
	"slices"
	"testing"

	"windrose/api"
	"windrose/record"
)

// P10.1: what may be, and what may not, each for one reason.
func TestCheck(t *testing.T) {
	for _, all := range []map[string]api.Records{good(), great()} {
		for name, r := range all {
			if !isRecords(r) {
				t.Fatalf("%s: the test's own is wrong", name)
			}
			if e := record.Check(r); e != api.OK {
				t.Errorf("%s: %d", name, e)
			}
		}
	}
	for _, all := range []map[string]api.Records{bad(), badGreat()} {
		for name, r := range all {
			if isRecords(r) {
				t.Fatalf("%s: the test's own is wrong", name)
			}
			if e := record.Check(r); e != api.ErrRecord {
				t.Errorf("%s: %d", name, e)
			}
		}
	}
}

// small tells all rows of up to so many of these spots.
func small(most int, some ...api.Spot) [][]api.Spot {
	rows := [][]api.Spot{nil}
	for from := 0; from < len(rows) && len(rows[from]) < most; from++ {
		for _, s := range some {
			rows = append(rows, append(slices.Clone(rows[from]), s))
		}
	}
	return rows
}

// P10.1: of all small rows of spots those may be that the words say.
func TestCheckAllSmall(t *testing.T) {
	for _, l := range small(4, at(0, 0), at(1, 0), at(1, 1), at(2, 0), at(1<<20, 1<<20+2), at(0, 1), at(-1, 0), at(1<<20+1, 0), at(1, -1), at(1, 1<<20+3)) {
		want := api.ErrRecord
		if isRecords(of(l...)) {
			want = api.OK
		}
		if e := record.Check(of(l...)); e != want {
			t.Fatal(l, e)
		}
	}
}

// P10.1: each spot counts, and where it stands; what may not be is held against others, as well.
func TestSame(t *testing.T) {
	like := of(at(1, 0), at(0, 0), at(2, 1), at(1, 1))
	for name, r := range map[string]api.Records{
		"a table":       of(at(3, 0), at(0, 0), at(2, 1), at(1, 1)),
		"a row":         of(at(1, 0), at(0, 0), at(2, 0), at(1, 1)),
		"the last row":  of(at(1, 0), at(0, 0), at(2, 1), at(1, 2)),
		"nowhere, not":  of(at(1, 0), at(4, 0), at(2, 1), at(1, 1)),
		"nowhere, too":  of(at(1, 0), at(0, 0), at(0, 0), at(1, 1)),
		"the order":     of(at(1, 1), at(0, 0), at(2, 1), at(1, 0)),
		"nowhere moved": of(at(0, 0), at(1, 0), at(2, 1), at(1, 1)),
		"one fewer":     of(at(1, 0), at(0, 0), at(2, 1)),
		"one more":      of(at(1, 0), at(0, 0), at(2, 1), at(1, 1), at(1, 2)),
		"nowhere more":  of(at(1, 0), at(0, 0), at(2, 1), at(1, 1), at(0, 0)),
		"nobody":        {},
		"turned about":  of(at(0, 1), at(0, 0), at(1, 2), at(1, 1)),
	} {
		if record.Same(like, r) || record.Same(r, like) {
			t.Error(name)
		}
	}
	all := good()
	for name, r := range bad() {
		all["bad, "+name] = r
	}
	for name, r := range all {
		if !record.Same(r, clone(r)) || !record.Same(r, withRoom(r)) {
			t.Error(name, "is not itself")
		}
	}
	if !record.Same(api.Records{}, of(spots()...)) {
		t.Error("nil and empty are not one")
	}
	if !record.Same(full(), full()) || record.Same(full(), of(full().Spots[:api.MaxIndex-1]...)) {
		t.Error("of all indexes")
	}
}

// P10.2: the spot of each; nowhere, of those that have none, and of what is no index.
func TestAt(t *testing.T) {
	for name, r := range good() {
		for index := -3; index <= len(r.Spots)+3; index++ {
			want, there := placesOf(r)[index]
			if s, ok := record.At(r, index); s != want || ok != there {
				t.Errorf("%s: %d: %v %v", name, index, s, ok)
			}
		}
		for _, index := range append(wrongIndexes(), len(r.Spots)+1, api.MaxIndex) {
			if s, ok := record.At(r, index); s != at(0, 0) || ok {
				t.Errorf("%s: %d: %v %v", name, index, s, ok)
			}
		}
	}
	for name, r := range map[string]api.Records{"all indexes": full(), "the greatest index alone": lone()} {
		for _, index := range numbers(1, api.MaxIndex, api.MaxIndex+1) {
			var want api.Spot
			if index >= 1 && index <= len(r.Spots) {
				want = r.Spots[index-1]
			}
			if s, ok := record.At(r, index); s != want || ok == isNowhere(want) {
				t.Errorf("%s: %d: %v %v", name, index, s, ok)
			}
		}
	}
}

// P10.2: who stands at each spot; nobody, where it is free, nowhere, or no spot.
func TestWho(t *testing.T) {
	for name, r := range good() {
		for place, s := range r.Spots {
			want := place + 1
			if isNowhere(s) {
				want = 0
			}
			if index, ok := record.Who(r, s); index != want || ok != (want != 0) {
				t.Errorf("%s: %v: %d %v", name, s, index, ok)
			}
		}
		for _, s := range append(append(freeOf(r), notSpots()...), at(0, 0), at(-1, -1), at(0, -1)) {
			if index, ok := record.Who(r, s); index != 0 || ok {
				t.Errorf("%s: %v: %d %v", name, s, index, ok)
			}
		}
	}
	for name, r := range great() {
		last := len(r.Spots)
		if index, ok := record.Who(r, r.Spots[last-1]); index != last || !ok {
			t.Errorf("%s: the last: %d %v", name, index, ok)
		}
		if index, ok := record.Who(r, at(5, api.MaxIndex)); index != 0 || ok {
			t.Errorf("%s: the greatest row: %d %v", name, index, ok)
		}
	}
}

// P10.2: those of each table, by their rows, where their indexes stand otherwise.
func TestRows(t *testing.T) {
	for name, r := range good() {
		for _, table := range tablesOf(r) {
			if l := record.Rows(r, table); !slices.Equal(l, wantRows(r, table)) {
				t.Errorf("%s: %d: %v", name, table, l)
			}
		}
	}
	for name, want := range map[string][]int{
		"rows falling":    numbers(5, 4, 3, 2, 1),
		"rows mixed":      numbers(3, 7, 1, 6),
		"rows left out":   numbers(2, 1),
		"the first index": numbers(1),
		"nobody":          nil,
		"the chapter's":   numbers(3, 4),
	} {
		if l := record.Rows(good()[name], 1); !slices.Equal(l, want) {
			t.Errorf("%s: %v", name, l)
		}
	}
}

// P10.2: of all indexes in one table each has its row; each of many tables has one.
func TestRowsGreat(t *testing.T) {
	l := record.Rows(full(), 5)
	if len(l) != api.MaxIndex {
		t.Fatal(len(l))
	}
	for row, index := range l {
		if index != api.MaxIndex-row {
			t.Fatal(row, index)
		}
	}
	for _, table := range numbers(0, 1, 4, 6, api.MaxTable) {
		if l := record.Rows(full(), table); len(l) != 0 {
			t.Error(table, len(l))
		}
	}
	for _, table := range numbers(1, 2, api.MaxTable) {
		if l := record.Rows(wide(), table); !slices.Equal(l, numbers(table)) {
			t.Error(table, l)
		}
	}
	if l := record.Rows(lone(), 2); !slices.Equal(l, numbers(api.MaxIndex)) {
		t.Error(l)
	}
}

// P10.2: of what may not be nobody is told, not even of its spots that may be.
func TestNothingOfBad(t *testing.T) {
	for name, r := range bad() {
		for index := -1; index <= len(r.Spots)+1; index++ {
			if s, ok := record.At(r, index); s != at(0, 0) || ok {
				t.Errorf("%s: At %d: %v %v", name, index, s, ok)
			}
		}
		for _, s := range append(slices.Clone(r.Spots), at(1, 0), at(1, 1), at(0, 0)) {
			if index, ok := record.Who(r, s); index != 0 || ok {
				t.Errorf("%s: Who %v: %d %v", name, s, index, ok)
			}
		}
		for _, table := range tablesOf(r) {
			if l := record.Rows(r, table); len(l) != 0 {
				t.Errorf("%s: Rows %d: %v", name, table, l)
			}
		}
	}
	for name, r := range badGreat() {
		s, there := record.At(r, 2)
		index, stands := record.Who(r, at(6, 0))
		if l := record.Rows(r, 5); s != at(0, 0) || there || index != 0 || stands || len(l) != 0 {
			t.Errorf("%s: %v %v %d %v %d", name, s, there, index, stands, len(l))
		}
	}
}

// put asks for what the chapter says of a Put.
func put(t *testing.T, name string, r api.Records, index int, s api.Spot) api.Errno {
	t.Helper()
	next, e := record.Put(r, index, s)
	want, wantE := wantPut(r, index, s)
	if e != wantE || !same(next, want) || e == api.OK && !isRecords(next) {
		t.Errorf("%s: %d at %v: %v %d, not %v %d", name, index, s, next, e, want, wantE)
	}
	return e
}

// P10.3: each index, those just behind the last one, too, at each free spot, at its own one, and at those where others stand.
func TestPut(t *testing.T) {
	for name, r := range good() {
		for index := 1; index <= len(r.Spots)+3; index++ {
			for _, s := range freeOf(r) {
				if e := put(t, name, r, index, s); e != api.OK {
					t.Errorf("%s: %d at %v: %d", name, index, s, e)
				}
			}
			for _, s := range takenOf(r) {
				e := put(t, name, r, index, s)
				if own := index <= len(r.Spots) && s == r.Spots[index-1]; own && e != api.OK || !own && e != api.ErrThere {
					t.Errorf("%s: %d at %v: %d", name, index, s, e)
				}
			}
		}
	}
}

// P10.3: an index that is put where it stands already changes nothing.
func TestPutThere(t *testing.T) {
	for name, r := range good() {
		for index, s := range placesOf(r) {
			if next, e := record.Put(r, index, s); e != api.OK || !record.Same(next, r) {
				t.Errorf("%s: %d: %v %d", name, index, next, e)
			}
		}
	}
}

// P10.3: the spot that is left is free by then: another one is put there.
func TestPutElsewhere(t *testing.T) {
	r := of(at(1, 0), at(0, 0), at(1, 1), at(2, 0))
	if e := put(t, "taken", r, 2, at(1, 1)); e != api.ErrThere {
		t.Error(e)
	}
	next, e := record.Put(r, 3, at(2, 1))
	if e != api.OK || !same(next, of(at(1, 0), at(0, 0), at(2, 1), at(2, 0))) {
		t.Fatal(next, e)
	}
	if index, ok := record.Who(next, at(1, 1)); index != 0 || ok {
		t.Error(index, ok)
	}
	if next, e = record.Put(next, 2, at(1, 1)); e != api.OK || !same(next, of(at(1, 0), at(1, 1), at(2, 1), at(2, 0))) {
		t.Error(next, e)
	}
	if next, e = record.Put(next, 3, at(1, 1)); e != api.ErrThere || !isZero(next) {
		t.Error(next, e)
	}
}

// P10.3: no index, nowhere, and what is no spot go ahead of one that stands there.
func TestPutArg(t *testing.T) {
	wrong := append(notSpots(), at(0, 0), at(-1, -1), at(0, -1))
	for name, r := range good() {
		all := append(freeOf(r), takenOf(r)...)
		for _, index := range wrongIndexes() {
			for _, s := range append(slices.Clone(wrong), all...) {
				if e := put(t, name, r, index, s); e != api.ErrArg {
					t.Errorf("%s: %d at %v: %d", name, index, s, e)
				}
			}
		}
		for _, s := range wrong {
			for index := 1; index <= len(r.Spots)+2; index++ {
				if e := put(t, name, r, index, s); e != api.ErrArg {
					t.Errorf("%s: %d at %v: %d", name, index, s, e)
				}
			}
		}
	}
}

// P10.3: the greatest index, and the greatest spot; nobody else comes by that.
func TestPutGreat(t *testing.T) {
	next, e := record.Put(of(at(1, 0)), api.MaxIndex, at(api.MaxTable, api.MaxIndex))
	if e != api.OK || !same(next, of(append(append(spots(at(1, 0)), nobodyUpTo(api.MaxIndex-2)...), at(api.MaxTable, api.MaxIndex))...)) {
		t.Error(len(next.Spots), e)
	}
	if next, e = record.Drop(next, api.MaxIndex); e != api.OK || !same(next, of(at(1, 0))) {
		t.Error(len(next.Spots), e)
	}
	for _, q := range []struct {
		index int
		s     api.Spot
		want  api.Errno
	}{
		{1, at(5, api.MaxIndex), api.OK}, {api.MaxIndex, at(6, 0), api.OK}, {1, at(5, api.MaxIndex-1), api.OK},
		{1, at(5, 0), api.ErrThere}, {api.MaxIndex, at(5, 1), api.ErrThere},
		{api.MaxIndex + 1, at(6, 0), api.ErrArg}, {0, at(5, 0), api.ErrArg}, {1, at(5, api.MaxIndex+1), api.ErrArg},
	} {
		var want api.Records
		if q.want == api.OK {
			want = full()
			want.Spots[q.index-1] = q.s
		}
		if next, e := record.Put(full(), q.index, q.s); e != q.want || !same(next, want) {
			t.Error(q, len(next.Spots), e)
		}
	}
}

// P10.3: each stands nowhere by then, and the others where they did; the last one takes those along that stand nowhere ahead of it.
func TestDrop(t *testing.T) {
	for name, r := range good() {
		for index := -1; index <= len(r.Spots)+2; index++ {
			next, e := record.Drop(r, index)
			want, wantE := wantDrop(r, index)
			if e != wantE || !same(next, want) || !isRecords(next) {
				t.Errorf("%s: %d: %v %d", name, index, next, e)
			}
		}
		for _, index := range append(wrongIndexes(), len(r.Spots)+1, api.MaxIndex) {
			if next, e := record.Drop(r, index); e != api.ErrNone || !isZero(next) {
				t.Errorf("%s: %d: %v %d", name, index, next, e)
			}
		}
	}
	for want, r := range map[int]api.Records{
		0: of(append(nobodyUpTo(4), at(3, 0))...),
		1: of(at(1, 0), at(0, 0), at(0, 0), at(1, 1)),
		3: of(at(1, 0), at(0, 0), at(2, 0), at(1, 1)),
	} {
		if next, e := record.Drop(r, len(r.Spots)); e != api.OK || len(next.Spots) != want {
			t.Error(want, next, e)
		}
	}
}

// P10.3: of all indexes each can go.
func TestDropGreat(t *testing.T) {
	for _, index := range numbers(1, 1<<19, api.MaxIndex) {
		want := full()
		want.Spots[index-1] = at(0, 0)
		if index == api.MaxIndex {
			want.Spots = want.Spots[:index-1]
		}
		if next, e := record.Drop(full(), index); e != api.OK || !same(next, want) {
			t.Error(index, len(next.Spots), e)
		}
	}
	if next, e := record.Drop(lone(), api.MaxIndex); e != api.OK || !isZero(next) {
		t.Error(len(next.Spots), e)
	}
	if next, e := record.Drop(lone(), api.MaxIndex-1); e != api.ErrNone || !isZero(next) {
		t.Error(len(next.Spots), e)
	}
}

// swap asks for what the chapter says of a Swap.
func swap(t *testing.T, name string, r api.Records, index, last int) (api.Records, api.Errno) {
	t.Helper()
	next, e := record.Swap(r, index, last)
	want, wantE := wantSwap(r, index, last)
	if e != wantE || !same(next, want) || !isRecords(next) {
		t.Errorf("%s: %d, %d: %v %d, not %v %d", name, index, last, next, e, want, wantE)
	}
	return next, e
}

// P10.4: each is swapped out, by each row that is last, or is not.
func TestSwap(t *testing.T) {
	for name, r := range good() {
		for index := -1; index <= len(r.Spots)+2; index++ {
			for _, last := range numbers(math.MinInt, -1, 0, 1, 2, 3, 4, 5, 6, 7, 8, 9, 1<<20, 1<<20+1, 1<<20+2, 1<<20+3, 1<<32, math.MaxInt) {
				swap(t, name, r, index, last)
			}
		}
		for _, index := range append(wrongIndexes(), len(r.Spots)+1, api.MaxIndex) {
			for _, last := range numbers(-1, 0, 1, math.MaxInt) {
				if _, e := swap(t, name, r, index, last); e != api.ErrNone {
					t.Errorf("%s: %d, %d: %d", name, index, last, e)
				}
			}
		}
	}
}

// P10.4: who stands at last comes, or goes, if it is the one itself; each error alone.
func TestSwapEach(t *testing.T) {
	r := of(at(1, 2), at(2, 0), at(1, 0), at(0, 0), at(2, 1), at(1, 3), at(1, 1), at(3, 5), at(2, 4))
	for name, q := range map[string]struct {
		index, last int
		want        api.Errno
		comes       api.Records
	}{
		"the first row":          {3, 3, api.OK, of(at(1, 2), at(2, 0), at(0, 0), at(0, 0), at(2, 1), at(1, 0), at(1, 1), at(3, 5), at(2, 4))},
		"a row among":            {1, 3, api.OK, of(at(0, 0), at(2, 0), at(1, 0), at(0, 0), at(2, 1), at(1, 2), at(1, 1), at(3, 5), at(2, 4))},
		"itself":                 {6, 3, api.OK, of(at(1, 2), at(2, 0), at(1, 0), at(0, 0), at(2, 1), at(0, 0), at(1, 1), at(3, 5), at(2, 4))},
		"alone in its table":     {8, 5, api.OK, of(at(1, 2), at(2, 0), at(1, 0), at(0, 0), at(2, 1), at(1, 3), at(1, 1), at(0, 0), at(2, 4))},
		"the last index":         {9, 4, api.OK, of(at(1, 2), at(2, 0), at(1, 0), at(0, 0), at(2, 1), at(1, 3), at(1, 1), at(3, 5))},
		"rows left out":          {2, 4, api.OK, of(at(1, 2), at(0, 0), at(1, 0), at(0, 0), at(2, 1), at(1, 3), at(1, 1), at(3, 5), at(2, 0))},
		"its own row above":      {8, 4, api.ErrArg, api.Records{}},
		"far above":              {8, -1, api.ErrArg, api.Records{}},
		"another above":          {3, 2, api.ErrArg, api.Records{}},
		"another above, itself":  {1, 2, api.ErrArg, api.Records{}},
		"another above, nobody":  {2, 3, api.ErrArg, api.Records{}},
		"nobody at last":         {3, 4, api.ErrArg, api.Records{}},
		"nobody, another table":  {3, 5, api.ErrArg, api.Records{}},
		"stands nowhere":         {4, 3, api.ErrNone, api.Records{}},
		"nowhere, nobody either": {4, 9, api.ErrNone, api.Records{}},
		"no index, row below":    {0, -1, api.ErrNone, api.Records{}},
	} {
		next, e := swap(t, name, r, q.index, q.last)
		if e != q.want || !same(next, q.comes) {
			t.Errorf("%s: %v %d", name, next, e)
		}
	}
}

// P10.4: of all indexes each is swapped out alone; at the greatest row, too.
func TestSwapGreat(t *testing.T) {
	for _, index := range numbers(1, 2, 1<<19, api.MaxIndex) {
		want := full()
		want.Spots[0] = want.Spots[index-1]
		want.Spots[index-1] = at(0, 0)
		if index == api.MaxIndex {
			want.Spots = want.Spots[:index-1]
		}
		if next, e := record.Swap(full(), index, api.MaxIndex-1); e != api.OK || !same(next, want) {
			t.Error(index, len(next.Spots), e)
		}
	}
	for _, last := range numbers(api.MaxIndex-2, api.MaxIndex, api.MaxIndex+1) {
		if next, e := record.Swap(full(), 5, last); e != api.ErrArg || !isZero(next) {
			t.Error(last, len(next.Spots), e)
		}
	}
	r := of(at(api.MaxTable, 3), at(api.MaxTable, api.MaxIndex))
	if next, e := record.Swap(r, 1, api.MaxIndex); e != api.OK || !same(next, of(at(0, 0), at(api.MaxTable, 3))) {
		t.Error(next, e)
	}
}

// P10.1 to P10.4: of all small records everything is done that the words say.
func TestAllSmall(t *testing.T) {
	some := spots(at(0, 0), at(1, 0), at(1, 1), at(1, 2), at(2, 0))
	for _, l := range small(4, some...) {
		r := of(l...)
		if !isRecords(r) {
			continue
		}
		for index := -1; index <= 6; index++ {
			for _, s := range append(slices.Clone(some), at(3, 1), at(0, 1), at(1, -1)) {
				put(t, "small", r, index, s)
			}
			for last := -1; last <= 3; last++ {
				swap(t, "small", r, index, last)
			}
			next, e := record.Drop(r, index)
			if want, wantE := wantDrop(r, index); e != wantE || !same(next, want) {
				t.Fatal(r, index, next, e)
			}
		}
		for table := -1; table <= 3; table++ {
			if got := record.Rows(r, table); !slices.Equal(got, wantRows(r, table)) {
				t.Fatal(r, table, got)
			}
		}
	}
}

// P10.1 to P10.4: what may not be goes ahead of all else.
func TestBadGoesAhead(t *testing.T) {
	for name, r := range bad() {
		for index := -1; index <= len(r.Spots)+1; index++ {
			for _, s := range append(slices.Clone(r.Spots), at(1, 0), at(7, 7), at(0, 0), at(-1, 0)) {
				if next, e := record.Put(r, index, s); e != api.ErrRecord || !isZero(next) {
					t.Errorf("%s: Put: %v %d", name, next, e)
				}
			}
			for last := -1; last <= 4; last++ {
				if next, e := record.Swap(r, index, last); e != api.ErrRecord || !isZero(next) {
					t.Errorf("%s: Swap: %v %d", name, next, e)
				}
			}
			if next, e := record.Drop(r, index); e != api.ErrRecord || !isZero(next) {
				t.Errorf("%s: Drop: %v %d", name, next, e)
			}
		}
	}
	for name, r := range badGreat() {
		put, e := record.Put(r, 2, at(7, 0))
		drop, e2 := record.Drop(r, 2)
		swap, e3 := record.Swap(r, 2, api.MaxIndex-1)
		if e != api.ErrRecord || e2 != api.ErrRecord || e3 != api.ErrRecord || !isZero(put) || !isZero(drop) || !isZero(swap) {
			t.Errorf("%s: %d %d %d", name, e, e2, e3)
		}
	}
}

// P10.1 to P10.4: the chapter's examples.
func TestExamples(t *testing.T) {
	r := good()["the chapter's"]
	if s, ok := record.At(r, 4); s != at(1, 1) || !ok {
		t.Error(s, ok)
	}
	if s, ok := record.At(r, 5); s != at(0, 0) || ok {
		t.Error(s, ok)
	}
	if index, ok := record.Who(r, at(2, 0)); index != 6 || !ok {
		t.Error(index, ok)
	}
	if l := record.Rows(r, 1); !slices.Equal(l, numbers(3, 4)) {
		t.Error(l)
	}
	for index, want := range map[int]int{3: 4, 4: 3} {
		next, e := record.Swap(r, index, 1)
		if l := record.Rows(next, 1); e != api.OK || !slices.Equal(l, numbers(want)) {
			t.Error(index, l, e)
		}
	}
	if next, e := record.Put(r, 5, at(2, 0)); e != api.ErrThere || !isZero(next) {
		t.Error(next, e)
	}
	if next, e := record.Put(r, 5, at(0, 0)); e != api.ErrArg || !isZero(next) {
		t.Error(next, e)
	}
	if next, e := record.Drop(r, 5); e != api.ErrNone || !isZero(next) {
		t.Error(next, e)
	}
}
