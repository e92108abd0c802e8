package shift_test

import (
	"math/rand"
	"slices"
	"testing"

	"windrose/api"
	"windrose/shift"
	"windrose/table"
)

// must is both tables that come, if they may be.
func must(t *testing.T, a, b api.Table, e api.Errno) (api.Table, api.Table) {
	t.Helper()
	for _, one := range []api.Table{a, b} {
		if e != api.OK || table.Check(one) != api.OK || !isTable(one) {
			t.Fatal(a, b, e)
		}
	}
	return a, b
}

// stays asks that all of a table but one have their values in another one.
func stays(t *testing.T, name string, was, now api.Table, but api.Id) {
	t.Helper()
	for row, who := range was.Entities {
		if who == but {
			continue
		}
		at, ok := table.Row(now, who)
		got, e := table.Values(now, at)
		want, _ := table.Values(was, row)
		if !ok || e != api.OK || !sameValues(got, want) {
			t.Errorf("%s: %x has %v, not %v", name, who, got, want)
		}
	}
}

// P11.4: what comes may be; all others have what they had; together both have as many entities as ahead.
func TestOthersStay(t *testing.T) {
	for _, p := range free() {
		for row, who := range p.from.Entities {
			m, e := shift.Move(p.from, p.to, row)
			a, b := must(t, m.From, m.To, e)
			stays(t, p.name, p.from, a, who)
			stays(t, p.name, p.to, b, 0)
			if len(a.Entities) != len(p.from.Entities)-1 || len(b.Entities) != len(p.to.Entities)+1 {
				t.Errorf("%s: %d and %d entities", p.name, len(a.Entities), len(b.Entities))
			}
			if !slices.Equal(a.Type, p.from.Type) || !slices.Equal(b.Type, p.to.Type) || !slices.Equal(widthsOf(a), widthsOf(p.from)) || !slices.Equal(widthsOf(b), widthsOf(p.to)) {
				t.Errorf("%s: other types or widths", p.name)
			}
			if _, ok := table.Row(a, who); ok {
				t.Errorf("%s: %x is still there", p.name, who)
			}
		}
	}
}

// P11.1 and P11.4: Row is the row of who has come, Who stands in the row from which that one went.
func TestRowAndWho(t *testing.T) {
	for _, p := range free() {
		for row, who := range p.from.Entities {
			m, _ := shift.Move(p.from, p.to, row)
			if at, ok := table.Row(m.To, who); !ok || at != m.Row {
				t.Errorf("%s: row %d, not %d", p.name, at, m.Row)
			}
			stands := api.Id(0)
			if row < len(m.From.Entities) {
				stands = m.From.Entities[row]
			}
			if m.Who != stands {
				t.Errorf("%s: %x stands there, not %x", p.name, stands, m.Who)
			}
		}
	}
}

// P11.3 and P11.4: moved, and moved back, an entity has what it had, but that what was lost is 0; the other table is as it was.
func TestBack(t *testing.T) {
	for _, p := range free() {
		lost, _ := shift.Lost(p.from, p.to)
		for row, who := range p.from.Entities {
			m, _ := shift.Move(p.from, p.to, row)
			back, e := shift.Move(m.To, m.From, m.Row)
			b, a := must(t, back.From, back.To, e)
			if back.Row != len(p.from.Entities)-1 || back.Who != 0 || !same(b, p.to) {
				t.Errorf("%s: %v", p.name, back)
			}
			stays(t, p.name, p.from, a, who)
			for at, id := range p.from.Type {
				want, _ := table.Get(p.from, row, id)
				if slices.Contains(lost, id) {
					want = make(api.Value, p.from.Columns[at].Width)
				}
				if got, e := table.Get(a, back.Row, id); e != api.OK || !slices.Equal(got, want) {
					t.Errorf("%s: %x: %v, not %v", p.name, id, got, want)
				}
			}
		}
	}
}

// P11.3: what is new has words that are 0, all else has the values that it had; what is lost and what is new have nothing in common.
func TestNewIsNought(t *testing.T) {
	for _, p := range free() {
		lost, _ := shift.Lost(p.from, p.to)
		fresh, _ := shift.New(p.from, p.to)
		for row := range p.from.Entities {
			m, _ := shift.Move(p.from, p.to, row)
			for at, id := range p.to.Type {
				want, e := table.Get(p.from, row, id)
				if slices.Contains(fresh, id) {
					if e != api.ErrNone {
						t.Errorf("%s: %x is not new", p.name, id)
					}
					want = make(api.Value, p.to.Columns[at].Width)
				}
				if got, e := table.Get(m.To, m.Row, id); e != api.OK || !slices.Equal(got, want) {
					t.Errorf("%s: %x: %v, not %v", p.name, id, got, want)
				}
			}
		}
		if slices.ContainsFunc(lost, func(id api.Id) bool { return slices.Contains(fresh, id) || slices.Contains(p.to.Type, id) }) {
			t.Errorf("%s: lost %v, new %v", p.name, lost, fresh)
		}
	}
}

// P11.2: rows moved along are rows moved one by one.
func TestAlongIsMoves(t *testing.T) {
	for _, p := range free() {
		random := rand.New(rand.NewSource(int64(len(p.name))))
		var l []int
		m := api.Moved{From: p.from, To: p.to}
		for many := len(p.from.Entities); many > 0; many-- {
			l = append(l, random.Intn(many))
			m, _ = shift.Move(m.From, m.To, l[len(l)-1])
			a, b, e := shift.Along(p.from, p.to, l...)
			if a, b = must(t, a, b, e); !same(a, m.From) || !same(b, m.To) {
				t.Errorf("%s: %v", p.name, l)
			}
		}
		if len(m.From.Entities) != 0 {
			t.Errorf("%s: some are left", p.name)
		}
	}
}

// P11.4: whatever is moved between three tables, they have the rows that the words say, and none is lost.
func TestWalk(t *testing.T) {
	all := kinds()
	for seed := range 40 {
		random := rand.New(rand.NewSource(int64(seed)))
		names := []string{"c1 c2", "c2 c3", "c1 c2 c3"}
		if seed%2 == 1 {
			names = []string{"12 ids", "6 of 12", "11, not the 1st"}
		}
		var tables [3]api.Table
		for at, name := range names {
			tables[at] = filled(all[name].l, all[name].widths, 4, 10+10*at)
		}
		for range 200 {
			from, to := random.Intn(3), random.Intn(3)
			l := []int{random.Intn(7), random.Intn(7) - 1}[:random.Intn(3)]
			a, b, e := shift.Along(tables[from], tables[to], l...)
			x, y, fault := wantedAlong(tables[from], tables[to], l...)
			if e != fault || !same(a, x) || !same(b, y) {
				t.Fatal(seed, from, to, l, a, b, e)
			}
			if e == api.OK && from != to {
				tables[from], tables[to] = a, b
			}
			if len(tables[0].Entities)+len(tables[1].Entities)+len(tables[2].Entities) != 12 {
				t.Fatal(seed, "some are lost")
			}
		}
	}
}

// withRoom is the table, with room behind its ends in which something stands.
func withRoom(t api.Table) api.Table {
	t.Type = append(slices.Clone(t.Type), comp(11), comp(12), comp(13))[:len(t.Type)]
	t.Entities = append(slices.Clone(t.Entities), entity(201, 0), entity(202, 0), entity(203, 0))[:len(t.Entities)]
	t.Columns = append(slices.Clone(t.Columns), api.Column{Width: 1, Rows: 1, Words: []uint64{91}})[:len(t.Columns)]
	for at, c := range t.Columns {
		t.Columns[at].Words = append(slices.Clone(c.Words), 92, 93, 94)[:len(c.Words)]
	}
	return t
}

// sameWhole tells whether both are the same, with what stands behind their ends.
func sameWhole(a, b api.Table) bool {
	whole := func(t api.Table) api.Table {
		t.Type, t.Entities, t.Columns = t.Type[:cap(t.Type)], t.Entities[:cap(t.Entities)], slices.Clone(t.Columns[:cap(t.Columns)])
		for at, c := range t.Columns {
			t.Columns[at].Words = c.Words[:cap(c.Words)]
		}
		return t
	}
	x, y := whole(a), whole(b)
	// The other one's room may be longer, since it was cloned.
	y.Type, y.Entities, y.Columns = y.Type[:len(x.Type)], y.Entities[:len(x.Entities)], y.Columns[:len(x.Columns)]
	for at, c := range x.Columns {
		y.Columns[at].Words = y.Columns[at].Words[:len(c.Words)]
	}
	return len(a.Type) == len(b.Type) && len(a.Entities) == len(b.Entities) && len(a.Columns) == len(b.Columns) && same(x, y)
}

// lists is the memory of an answer, each list with its room, as a way to put a number everywhere in it, and one to ask for it.
type lists struct {
	fill  []func(n uint64)
	holds []func(n uint64) bool
}

// put adds a list, of which one is made of a number, and asked whether it is that one.
func put[T any](l *lists, w []T, of func(n uint64) T, is func(one T, n uint64) bool) {
	w = w[:cap(w)]
	l.fill = append(l.fill, func(n uint64) {
		for at := range w {
			w[at] = of(n)
		}
	})
	l.holds = append(l.holds, func(n uint64) bool {
		return !slices.ContainsFunc(w, func(one T) bool { return !is(one, n) })
	})
}

func (l *lists) ids(w []api.Id) *lists {
	put(l, w, func(n uint64) api.Id { return api.Id(n) }, func(id api.Id, n uint64) bool { return id == api.Id(n) })
	return l
}

// of is the memory of tables.
func (l *lists) of(tables ...api.Table) *lists {
	for _, t := range tables {
		l.ids(t.Type)
		l.ids(t.Entities)
		for _, c := range t.Columns {
			put(l, c.Words, func(n uint64) uint64 { return n }, func(word, n uint64) bool { return word == n })
		}
		put(l, t.Columns, func(n uint64) api.Column { return api.Column{Rows: int(n)} }, func(c api.Column, n uint64) bool { return c.Rows == int(n) })
	}
	return l
}

// shares puts a number of its own in each list of an answer, and tells whether one is gone by then.
func (l *lists) shares() bool {
	for n, fill := range l.fill {
		fill(uint64(n + 1000))
	}
	for n, holds := range l.holds {
		if !holds(uint64(n + 1000)) {
			return true
		}
	}
	return false
}

// each does all that is done to two tables, and hands on the memory of each answer.
func each(from, to api.Table, l []int, answer func(name string, all *lists)) {
	m, _ := shift.Move(from, to, append(l, 0)[0])
	answer("move", new(lists).of(m.From, m.To))
	a, b, _ := shift.Along(from, to, l...)
	answer("along", new(lists).of(a, b))
	lost, _ := shift.Lost(from, to)
	answer("lost", new(lists).ids(lost))
	fresh, _ := shift.New(from, to)
	answer("new", new(lists).ids(fresh))
}

// P11.1 to P11.3, by R3: what is handed in stays as it is, the room behind its ends, too; what is answered is new memory, no two lists of it the same.
func TestMemory(t *testing.T) {
	for _, p := range couples() {
		from, to := withRoom(p.from), withRoom(p.to)
		was, wasTo := clone(from), clone(to)
		for _, rows := range [][]int{nil, {0}, {1, 0}, {-1}} {
			l := append(slices.Clone(rows), 77, 78)[:len(rows):len(rows)]
			each(from, to, l, func(what string, all *lists) {
				if all.shares() {
					t.Fatalf("%s: %s, %v: two lists share memory", p.name, what, rows)
				}
				if !sameWhole(from, was) || !sameWhole(to, wasTo) || !slices.Equal(l, rows) {
					t.Fatalf("%s: %s, %v: an argument changed, or is shared", p.name, what, rows)
				}
			})
		}
	}
}

// P11.2, by R3: the row of numbers stays as it is, the room behind its end, too; what may not be stays, too.
func TestMemoryRows(t *testing.T) {
	from, to := filled(ids(comp(1)), []int{1}, 3, 10), filled(ids(comp(2)), []int{1}, 1, 100)
	l := []int{0, 0, 5, 6}
	shift.Along(from, to, l[:2]...)
	shift.Along(from, to, l[:3]...)
	if !slices.Equal(l, []int{0, 0, 5, 6}) {
		t.Error(l)
	}
	for name, one := range bad() {
		was := clone(one)
		each(one, to, l[:1:1], func(what string, _ *lists) {
			if !sameWhole(one, was) {
				t.Errorf("%s: %s changed it", name, what)
			}
		})
		each(to, one, l[:1:1], func(what string, _ *lists) {
			if !sameWhole(one, was) {
				t.Errorf("%s: %s changed it", name, what)
			}
		})
	}
}

// R3: one table handed in twice comes as two, of which none shares memory with the other.
func TestMemoryTwice(t *testing.T) {
	one := withRoom(filled(ids(comp(1), comp(2)), []int{1, 2}, 3, 10))
	was := clone(one)
	a, b, e := shift.Along(one, one)
	if a, b = must(t, a, b, e); !same(a, was) || !same(b, was) {
		t.Error(a, b)
	}
	if new(lists).of(a, b).shares() || !sameWhole(one, was) {
		t.Error("memory is shared")
	}
}

// R3: what was handed in is not kept: changed later, it changes no answer.
func TestNotKept(t *testing.T) {
	from, to := filled(ids(comp(1), comp(2)), []int{2, 1}, 3, 10), filled(ids(comp(2), comp(3)), []int{1, 4}, 2, 100)
	want, _ := wanted(clone(from), clone(to), 1)
	x, y, _ := wantedAlong(clone(from), clone(to), 0, 1)
	was, wasTo := clone(from), clone(to)
	m, _ := shift.Move(from, to, 1)
	l := []int{0, 1}
	a, b, _ := shift.Along(from, to, l...)
	c, d, _ := shift.Along(from, to)
	lost, _ := shift.Lost(from, to)
	fresh, _ := shift.New(from, to)
	clear(l)
	new(lists).of(from, to).shares()
	if !sameMoved(m, want) || !same(a, x) || !same(b, y) || !same(c, was) || !same(d, wasTo) {
		t.Error(m, a, b, c, d)
	}
	if !slices.Equal(lost, ids(comp(1))) || !slices.Equal(fresh, ids(comp(3))) {
		t.Error(lost, fresh)
	}
}

// R5: asked twice, the same is answered, whatever was asked between.
func TestTwice(t *testing.T) {
	for _, p := range couples() {
		m, e := shift.Move(p.from, p.to, 0)
		a, b, f := shift.Along(p.from, p.to, 0, 0)
		lost, _ := shift.Lost(p.from, p.to)
		again, e2 := shift.Move(p.from, p.to, 0)
		x, y, f2 := shift.Along(p.from, p.to, 0, 0)
		more, _ := shift.Lost(p.from, p.to)
		if e != e2 || f != f2 || !sameMoved(m, again) || !same(a, x) || !same(b, y) || !slices.Equal(lost, more) {
			t.Error(p.name)
		}
	}
}
