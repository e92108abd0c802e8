package table_test

import (
	"slices"
	"testing"

	"windrose/api"
	"windrose/table"
)

// must is the table that comes, if it may be.
func must(t *testing.T, one api.Table, e api.Errno) api.Table {
	t.Helper()
	if e != api.OK || table.Check(one) != api.OK || !isTable(one) {
		t.Fatal(one, e)
	}
	return one
}

// told are the rows of a table, as it is asked for them.
func told(t *testing.T, one api.Table) []line {
	t.Helper()
	var l []line
	for row, who := range one.Entities {
		if at, ok := table.Row(one, who); !ok || at != row {
			t.Fatal(who, at, ok)
		}
		all, e := table.Values(one, row)
		if e != api.OK || len(all) != len(one.Type) {
			t.Fatal(row, all, e)
		}
		for at, id := range one.Type {
			if v, e := table.Get(one, row, id); e != api.OK || !slices.Equal(v, all[at]) {
				t.Fatal(row, id, v, e)
			}
		}
		l = append(l, line{who, all})
	}
	return l
}

// P9.5: what is pushed is found, and has its values; all others have theirs; swapped out at once, it is as it was.
func TestPushedAndSwappedOut(t *testing.T) {
	for name, one := range good() {
		who, l := entity(100, 3), counted(widthsOf(one), 1<<40)
		next, e := table.Push(one, who, l)
		next = must(t, next, e)
		row, ok := table.Row(next, who)
		got, e := table.Values(next, row)
		if !ok || e != api.OK || !sameValues(got, l) || !sameLines(told(t, next)[:row], told(t, one)) {
			t.Errorf("%s: %d %v %v %d", name, row, ok, got, e)
		}
		back, stands, e := table.Swap(next, row)
		if back = must(t, back, e); stands != 0 || !table.Same(back, one) {
			t.Errorf("%s: %v %x", name, back, stands)
		}
	}
}

// P9.5: all others have their values, whatever is swapped out; who went is no more there.
func TestOthersStay(t *testing.T) {
	for name, one := range good() {
		lines := told(t, one)
		for row, gone := range one.Entities {
			next, _, e := table.Swap(one, row)
			next = must(t, next, e)
			if at, ok := table.Row(next, gone); ok || at != 0 || len(next.Entities) != len(lines)-1 {
				t.Errorf("%s: %d is still there", name, row)
			}
			for _, l := range lines {
				if l.who == gone {
					continue
				}
				at, ok := table.Row(next, l.who)
				if got, e := table.Values(next, at); !ok || e != api.OK || !sameValues(got, l.vals) {
					t.Errorf("%s: %d: %x has %v", name, row, l.who, got)
				}
			}
		}
	}
}

// P9.4 and P9.5: what is set is got; set to what it was, it is the same.
func TestSetAndBack(t *testing.T) {
	for name, one := range good() {
		for row, was := range linesOf(one) {
			for at, id := range one.Type {
				v := counted([]int{len(was.vals[at])}, 77)[0]
				next, e := table.Set(one, row, id, v)
				next = must(t, next, e)
				if got, e := table.Get(next, row, id); e != api.OK || !slices.Equal(got, v) {
					t.Errorf("%s: %v %d", name, got, e)
				}
				next, e = table.Set(next, row, id, was.vals[at])
				if next = must(t, next, e); !table.Same(next, one) {
					t.Errorf("%s: %v", name, next)
				}
			}
		}
	}
}

// step does one thing, by numbers, to a table and to its rows.
func step(t *testing.T, kind, at int, one api.Table, lines []line) (api.Table, []line) {
	t.Helper()
	var e api.Errno
	at64 := uint64(at)
	switch {
	case kind < 5:
		who, l := entity(1+at%150, at%8), counted(widthsOf(one), at64<<20)
		there := slices.ContainsFunc(lines, func(l line) bool { return indexOf(l.who) == indexOf(who) })
		next, e := table.Push(one, who, l)
		if there {
			if e != api.ErrThere || !isZero(next) {
				t.Fatal(who, e)
			}
			return one, lines
		}
		return must(t, next, e), behind(lines, line{who, l})
	case len(lines) == 0:
		return one, lines
	case kind < 8:
		at %= len(lines)
		one, _, e = table.Swap(one, at)
		return must(t, one, e), without(lines, at)
	case len(one.Type) == 0:
		return one, lines
	}
	at %= len(lines)
	place := kind % len(one.Type)
	v := counted([]int{one.Columns[place].Width}, at64<<30)[0]
	one, e = table.Set(one, at, one.Type[place], v)
	lines = slices.Clone(lines)
	lines[at].vals = slices.Clone(lines[at].vals)
	lines[at].vals[place] = v
	return must(t, one, e), lines
}

// P9.2 to P9.5: whatever is done, a table tells what rows would that are kept one by one.
func TestLikeRows(t *testing.T) {
	many, mixed := twelve()
	for kind, q := range []struct {
		l      []api.Id
		widths []int
	}{{nil, nil}, {ids(comp(1)), []int{1}}, {ids(comp(1), pair(3, 4)), []int{2, 0}}, {many[:5], mixed[:5]}, {many, mixed}} {
		for seed := range 4 {
			r := source(int64(100*kind + seed))
			one, e := table.New(q.l, q.widths...)
			one = must(t, one, e)
			like, lines := one, []line(nil)
			for range 300 {
				one, lines = step(t, r.Intn(13), r.Intn(10000), one, lines)
				if !has(one, like, lines) {
					t.Fatal(kind, seed, one, lines)
				}
			}
			if !sameLines(told(t, one), lines) {
				t.Fatal(kind, seed, one, lines)
			}
		}
	}
}

// withRoom is the table, with room behind its ends in which something stands.
func withRoom(t api.Table) api.Table {
	t.Type = append(slices.Clone(t.Type), comp(11), comp(12), comp(13))[:len(t.Type)]
	t.Entities = append(slices.Clone(t.Entities), entity(201, 0), entity(202, 0), entity(203, 0))[:len(t.Entities)]
	t.Columns = append(slices.Clone(t.Columns), api.Column{Width: 1, Rows: 1, Words: []uint64{91}})[:len(t.Columns)]
	for at, c := range t.Columns {
		t.Columns[at].Words = append(slices.Clone(c.Words), 92, 93, 94)[:len(c.Words)]
	}
	return t
}

// sameWhole tells whether both are the same, with what stands behind their ends.
func sameWhole(a, b api.Table) bool {
	whole := func(t api.Table) api.Table {
		t.Type, t.Entities, t.Columns = t.Type[:cap(t.Type)], t.Entities[:cap(t.Entities)], slices.Clone(t.Columns[:cap(t.Columns)])
		for at, c := range t.Columns {
			t.Columns[at].Words = c.Words[:cap(c.Words)]
		}
		return t
	}
	x, y := whole(a), whole(b)
	// The other one's room may be longer, since it was cloned.
	y.Type, y.Entities, y.Columns = y.Type[:len(x.Type)], y.Entities[:len(x.Entities)], y.Columns[:len(x.Columns)]
	for at, c := range x.Columns {
		y.Columns[at].Words = y.Columns[at].Words[:len(c.Words)]
	}
	return len(a.Type) == len(b.Type) && len(a.Entities) == len(b.Entities) && len(a.Columns) == len(b.Columns) && table.Same(x, y)
}

// lists is the memory of an answer, each list with its room, as a way to put a number everywhere in it, and one to ask for it.
type lists struct {
	fill  []func(n uint64)
	holds []func(n uint64) bool
}

func (l *lists) words(w []uint64) {
	w = w[:cap(w)]
	l.fill = append(l.fill, func(n uint64) {
		for at := range w {
			w[at] = n
		}
	})
	l.holds = append(l.holds, func(n uint64) bool {
		return !slices.ContainsFunc(w, func(x uint64) bool { return x != n })
	})
}

func (l *lists) ids(w []api.Id) {
	w = w[:cap(w)]
	l.fill = append(l.fill, func(n uint64) {
		for at := range w {
			w[at] = api.Id(n)
		}
	})
	l.holds = append(l.holds, func(n uint64) bool {
		return !slices.ContainsFunc(w, func(x api.Id) bool { return x != api.Id(n) })
	})
}

func (l *lists) columns(w []api.Column) {
	for _, c := range w {
		l.words(c.Words)
	}
	w = w[:cap(w)]
	l.fill = append(l.fill, func(n uint64) {
		for at := range w {
			w[at] = api.Column{Rows: int(n)}
		}
	})
	l.holds = append(l.holds, func(n uint64) bool {
		return !slices.ContainsFunc(w, func(c api.Column) bool { return c.Rows != int(n) })
	})
}

// of is the memory of an answer: of tables, or of values.
func (l *lists) of(t api.Table) *lists {
	l.ids(t.Type)
	l.ids(t.Entities)
	l.columns(t.Columns)
	return l
}

func (l *lists) values(w ...api.Value) *lists {
	for _, v := range w {
		l.words(v)
	}
	w = w[:cap(w)]
	l.fill = append(l.fill, func(n uint64) {
		for at := range w {
			w[at] = api.Value{n}
		}
	})
	l.holds = append(l.holds, func(n uint64) bool {
		return !slices.ContainsFunc(w, func(v api.Value) bool { return len(v) != 1 || v[0] != n })
	})
	return l
}

// each does all that is done to tables, and hands on the memory of each answer.
func each(one api.Table, row int, id, who api.Id, v api.Value, l []api.Value, answer func(name string, all *lists)) {
	table.Check(one)
	table.Same(one, one)
	table.Row(one, who)
	push, _ := table.Push(one, who, l)
	answer("push", new(lists).of(push))
	swap, _, _ := table.Swap(one, row)
	answer("swap", new(lists).of(swap))
	all, _ := table.Values(one, row)
	answer("values", new(lists).values(all...))
	got, _ := table.Get(one, row, id)
	answer("get", new(lists).values(got))
	set, _ := table.Set(one, row, id, v)
	answer("set", new(lists).of(set))
}

// handed are values that are handed in: with room behind their ends in which something stands.
func handed(widths []int) []api.Value {
	l := counted(widths, 1<<40)
	for at, v := range l {
		l[at] = append(slices.Clone(v), 81, 82, 83)[:len(v)]
	}
	return append(l, val(71), val(72))[:len(l)]
}

// sameHanded tells whether both are the same, with what stands behind their ends.
func sameHanded(a, b []api.Value) bool {
	return len(a) == len(b) && slices.EqualFunc(a[:len(a)+2], b[:len(a)+2], func(v, w api.Value) bool {
		return len(v) == len(w) && slices.Equal(v[:cap(v)], w[:cap(v)])
	})
}

// P9.2 to P9.4, by R3: what is handed in stays as it is, the room behind its ends, too; what is answered is new memory, no two lists of it the same.
func TestMemory(t *testing.T) {
	for name, one := range good() {
		one = withRoom(one)
		was, widths := clone(one), widthsOf(one)
		l, lWas := handed(widths), handed(widths)
		for row := -1; row <= len(one.Entities); row++ {
			for at := range len(one.Type) + 1 {
				id, v, vWas := comp(9), val(1), val(1)
				if at < len(one.Type) {
					id, v, vWas = one.Type[at], l[at], lWas[at]
				}
				each(one, row, id, entity(100, 0), v, l, func(what string, all *lists) {
					for n, fill := range all.fill {
						fill(uint64(n + 1000))
					}
					for n, holds := range all.holds {
						if !holds(uint64(n + 1000)) {
							t.Fatalf("%s: %s, row %d: two lists share memory", name, what, row)
						}
					}
					if !sameWhole(one, was) || !sameHanded(l, lWas) || !slices.Equal(v, vWas) {
						t.Fatalf("%s: %s, row %d: an argument changed, or is shared", name, what, row)
					}
				})
			}
		}
	}
}

// P9.1, by R3: New keeps neither ids nor widths, nor changes them.
func TestNewMemory(t *testing.T) {
	l, widths := twelve()
	l, widths = append(l, comp(9))[:12], append(widths, 9)[:12]
	lWas, widthsWas := slices.Clone(l[:13]), slices.Clone(widths[:13])
	one, e := table.New(l, widths...)
	for n, fill := range new(lists).of(must(t, one, e)).fill {
		fill(uint64(n + 1000))
	}
	if !slices.Equal(l[:13], lWas) || !slices.Equal(widths[:13], widthsWas) {
		t.Error(l, widths)
	}
	one, _ = table.New(l, widths...)
	clear(l)
	clear(widths)
	if !has(one, of(lWas[:12], widthsWas[:12]), nil) {
		t.Error(one)
	}
}

// R3: what was handed in is not kept: changed later, it changes no answer.
func TestNotKept(t *testing.T) {
	one := filled(ids(comp(1), comp(2)), []int{2, 1}, 2)
	l := vals(val(5, 6), val(7))
	push, _ := table.Push(one, entity(100, 0), l)
	set, _ := table.Set(one, 0, comp(1), l[0])
	swap, _, _ := table.Swap(one, 1)
	all, _ := table.Values(one, 1)
	lines := linesOf(clone(one))
	for n, fill := range new(lists).of(one).values(l...).fill {
		fill(uint64(n + 1000))
	}
	like := filled(ids(comp(1), comp(2)), []int{2, 1}, 0)
	if !has(push, like, behind(lines, line{entity(100, 0), vals(val(5, 6), val(7))})) || !has(swap, like, lines[:1]) {
		t.Error(push, swap)
	}
	if !has(set, like, []line{{lines[0].who, vals(val(5, 6), lines[0].vals[1])}, lines[1]}) || !sameValues(all, lines[1].vals) {
		t.Error(set, all)
	}
}
