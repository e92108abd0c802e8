package column_test

import (
	"slices"
	"testing"

	"windrose/api"
	"windrose/column"
)

// must is the column that comes, if it may be.
func must(t *testing.T, c api.Column, e api.Errno) api.Column {
	t.Helper()
	if e != api.OK || column.Check(c) != api.OK || !isColumn(c) {
		t.Fatal(c.Width, c.Rows, len(c.Words), e)
	}
	return c
}

// P8.5: pushed, and swapped out at once, it was never there.
func TestPushedAndSwappedOut(t *testing.T) {
	for name, c := range good() {
		v := counted(c.Width, 1, 9)[0]
		next, e := column.Push(c, v)
		next = must(t, next, e)
		if got, e := column.Get(next, c.Rows); e != api.OK || !slices.Equal(got, v) {
			t.Errorf("%s: %v %d", name, got, e)
		}
		next, e = column.Swap(next, c.Rows)
		if next = must(t, next, e); !column.Same(next, c) {
			t.Errorf("%s: %v", name, next)
		}
	}
}

// sorted are the values, in an order of their own.
func sorted(l []api.Value) []api.Value {
	return slices.SortedFunc(slices.Values(l), func(a, b api.Value) int { return slices.Compare(a, b) })
}

// P8.5: of all rows but the one that is swapped out the values stay, as many as there were.
func TestOthersStay(t *testing.T) {
	for name, c := range good() {
		for row, v := range valuesOf(c) {
			next, e := column.Swap(c, row)
			next = must(t, next, e)
			if !sameValues(sorted(append(column.Rows(next), v)), sorted(column.Rows(c))) {
				t.Errorf("%s: %d: %v", name, row, next)
			}
		}
	}
}

// P8.5: moved there, and back, each has the values that it had; moved there, both together have them.
func TestThereAndBack(t *testing.T) {
	for name, from := range good() {
		for _, rows := range []int{0, 1, 5} {
			to := filled(from.Width, rows, 1<<50)
			for row := range from.Rows {
				a, b, e := column.Move(from, to, row)
				a, b = must(t, a, e), must(t, b, e)
				together := sorted(append(column.Rows(a), column.Rows(b)...))
				if !sameValues(together, sorted(append(column.Rows(from), column.Rows(to)...))) {
					t.Errorf("%s: %d: %v %v", name, row, a, b)
				}
				b, a, e = column.Move(b, a, rows)
				a, b = must(t, a, e), must(t, b, e)
				if !column.Same(b, to) || !sameValues(sorted(column.Rows(a)), sorted(column.Rows(from))) {
					t.Errorf("%s: %d: %v %v", name, row, a, b)
				}
			}
		}
	}
}

// P8.2 and P8.5: what is set is got; set to what it was, it is the same.
func TestSetAndBack(t *testing.T) {
	for name, c := range good() {
		for row, was := range valuesOf(c) {
			v := counted(c.Width, 1, 77)[0]
			next, e := column.Set(c, row, v)
			next = must(t, next, e)
			if got, e := column.Get(next, row); e != api.OK || !slices.Equal(got, v) {
				t.Errorf("%s: %d: %v %d", name, row, got, e)
			}
			next, e = column.Set(next, row, was)
			if next = must(t, next, e); !column.Same(next, c) {
				t.Errorf("%s: %d: %v", name, row, next)
			}
		}
	}
}

// step does one thing, by a number, to two columns and to their rows.
func step(t *testing.T, kind, at int, width int, c [2]api.Column, rows [2][]api.Value) ([2]api.Column, [2][]api.Value) {
	t.Helper()
	which := kind & 1
	here, there := rows[which], rows[1-which]
	var e api.Errno
	switch {
	case kind < 8:
		l := counted(width, kind/2, uint64(at)<<20)
		c[which], e = column.Push(c[which], l...)
		here = behind(here, l...)
	case len(here) == 0:
		return c, rows
	case kind < 12:
		at %= len(here)
		c[which], e = column.Swap(c[which], at)
		here = without(here, at)
	case kind < 16:
		at %= len(here)
		v := counted(width, 1, uint64(kind)<<30)[0]
		c[which], e = column.Set(c[which], at, v)
		here = slices.Clone(here)
		here[at] = v
	default:
		at %= len(here)
		v := here[at]
		c[which], c[1-which], e = column.Move(c[which], c[1-which], at)
		here, there = without(here, at), behind(there, v)
	}
	if e != api.OK {
		t.Fatal(kind, at, e)
	}
	rows[which], rows[1-which] = here, there
	return c, rows
}

// P8.2 to P8.5: whatever is done, both tell what rows would that are kept one by one.
func TestLikeRows(t *testing.T) {
	for width := range api.MaxWidth + 1 {
		for seed := range 12 {
			r := source(int64(100*width + seed))
			first, e := column.New(width)
			second, e2 := column.New(width)
			c := [2]api.Column{must(t, first, e), must(t, second, e2)}
			var rows [2][]api.Value
			for range 400 {
				c, rows = step(t, r.Intn(22), r.Intn(1000), width, c, rows)
				for which := range c {
					if !has(c[which], width, rows[which]) || !sameValues(column.Rows(c[which]), rows[which]) {
						t.Fatal(width, seed, c[which], rows[which])
					}
				}
			}
		}
	}
}

// clone is the column, with the room behind its end, in other memory.
func clone(c api.Column) api.Column {
	c.Words = slices.Clone(c.Words[:cap(c.Words)])[:len(c.Words)]
	return c
}

// withRoom is the column, with room behind its end in which something stands.
func withRoom(c api.Column) api.Column {
	c.Words = append(slices.Clone(c.Words), 91, 92, 93, 94, 95, 96)[:len(c.Words)]
	return c
}

// sameWhole tells whether both are the same, with what stands behind their ends.
func sameWhole(a, b api.Column) bool {
	return a.Width == b.Width && a.Rows == b.Rows && len(a.Words) == len(b.Words) &&
		slices.Equal(a.Words[:cap(a.Words)], b.Words[:cap(a.Words)])
}

// spoil changes all words of these, up to the end of their room.
func spoil(l ...[]uint64) {
	for _, words := range l {
		for at := range words[:cap(words)] {
			words[:cap(words)][at] = 13
		}
	}
}

// each does all that is done to columns, and hands on the lists of each answer.
func each(c, to api.Column, row int, v api.Value, l []api.Value, answers func(name string, lists ...[]uint64)) {
	column.Check(c)
	column.Same(c, to)
	got, _ := column.Get(c, row)
	answers("get", got)
	set, _ := column.Set(c, row, v)
	answers("set", set.Words)
	push, _ := column.Push(c, l...)
	answers("push", push.Words)
	none, _ := column.Push(c)
	answers("push none", none.Words)
	swap, _ := column.Swap(c, row)
	answers("swap", swap.Words)
	a, b, _ := column.Move(c, to, row)
	answers("move", a.Words, b.Words)
	a, b, _ = column.Move(c, c, row)
	answers("move to itself", a.Words, b.Words)
	var lists [][]uint64
	for _, v := range column.Rows(c) {
		lists = append(lists, v)
	}
	answers("rows", lists...)
}

// R3: what is handed in stays as it is, the room behind its ends, too; what is answered is new memory.
func TestMemory(t *testing.T) {
	for name, c := range good() {
		c = withRoom(c)
		to := withRoom(filled(c.Width, 3, 40))
		v := append(make(api.Value, c.Width), 81, 82, 83)[:c.Width]
		l := append([]api.Value{v, counted(c.Width, 1, 60)[0]}, val(71))[:2]
		was, toWas, vWas := clone(c), clone(to), slices.Clone(v[:cap(v)])
		second := slices.Clone(l[1])
		stayed := func() bool {
			return sameWhole(c, was) && sameWhole(to, toWas) && slices.Equal(v[:cap(v)], vWas) &&
				len(l[0]) == c.Width && slices.Equal(l[1], second) && slices.Equal(l[:3][2], val(71))
		}
		for row := -1; row <= c.Rows; row++ {
			each(c, to, row, v, l, func(what string, lists ...[]uint64) {
				if !stayed() {
					t.Fatalf("%s: %s, row %d: an argument changed", name, what, row)
				}
				spoil(lists...)
				if !stayed() {
					t.Fatalf("%s: %s, row %d: an answer shares memory", name, what, row)
				}
			})
		}
	}
}

// R3: no two lists of one answer share memory, the room behind their ends, too.
func TestListsApart(t *testing.T) {
	for name, c := range good() {
		to := filled(c.Width, 3, 40)
		v := make(api.Value, c.Width)
		for row := range c.Rows {
			each(c, to, row, v, []api.Value{v, v}, func(what string, lists ...[]uint64) {
				for i, words := range lists {
					for at := range words[:cap(words)] {
						words[:cap(words)][at] = uint64(1000 + i)
					}
				}
				for i, words := range lists {
					for _, word := range words[:cap(words)] {
						if word != uint64(1000+i) {
							t.Fatalf("%s: %s, row %d: two lists share memory", name, what, row)
						}
					}
				}
			})
		}
	}
}

// R3: what was handed in is not kept: changed later, it changes no answer.
func TestNotKept(t *testing.T) {
	v := val(5, 6)
	c := of(2, val(1, 2), val(3, 4))
	l := []api.Value{v, v}
	next, _ := column.Push(c, l...)
	set, _ := column.Set(c, 0, v)
	got, _ := column.Get(c, 1)
	all := column.Rows(c)
	a, b, _ := column.Move(c, c, 0)
	spoil(v, c.Words)
	l[0], l[1] = nil, nil
	if !has(next, 2, []api.Value{val(1, 2), val(3, 4), val(5, 6), val(5, 6)}) || !has(set, 2, []api.Value{val(5, 6), val(3, 4)}) {
		t.Error(next, set)
	}
	if !slices.Equal(got, val(3, 4)) || !sameValues(all, []api.Value{val(1, 2), val(3, 4)}) {
		t.Error(got, all)
	}
	if !has(a, 2, []api.Value{val(3, 4)}) || !has(b, 2, []api.Value{val(1, 2), val(3, 4), val(1, 2)}) {
		t.Error(a, b)
	}
}
