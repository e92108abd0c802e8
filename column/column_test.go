package column_test

import (
	"math"
	"slices"
	"testing"

	"windrose/api"
	"windrose/column"
)

// P8.1: without rows, of each width that may be.
func TestNew(t *testing.T) {
	for width := range api.MaxWidth + 1 {
		if c, e := column.New(width); e != api.OK || !has(c, width, nil) {
			t.Error(width, c, e)
		}
	}
	for _, width := range []int{-1, -4, math.MinInt, api.MaxWidth + 1, 1 << 32, 1<<32 + 1, math.MaxInt} {
		if c, e := column.New(width); e != api.ErrArg || !isZero(c) {
			t.Error(width, c, e)
		}
	}
}

// P8.1: what may be, and what may not, each for one reason.
func TestCheck(t *testing.T) {
	for _, all := range []map[string]api.Column{good(), great()} {
		for name, c := range all {
			if !isColumn(c) {
				t.Fatalf("%s: the test's own is wrong", name)
			}
			if e := column.Check(c); e != api.OK {
				t.Errorf("%s: %d", name, e)
			}
		}
	}
	for name, c := range bad() {
		if isColumn(c) {
			t.Fatalf("%s: the test's own is wrong", name)
		}
		if e := column.Check(c); e != api.ErrColumn {
			t.Errorf("%s: %d", name, e)
		}
	}
}

// P8.1: of all small widths, rows and words those may be that the words say.
func TestCheckAllSmall(t *testing.T) {
	for width := -3; width <= api.MaxWidth+3; width++ {
		for rows := -3; rows <= 9; rows++ {
			for words := range 80 {
				c := api.Column{Width: width, Rows: rows, Words: make([]uint64, words)}
				want := api.ErrColumn
				if isColumn(c) {
					want = api.OK
				}
				if e := column.Check(c); e != want {
					t.Fatal(width, rows, words, e)
				}
			}
		}
	}
}

// P8.1: each part counts, its order too; what may not be is held against others, as well.
func TestSame(t *testing.T) {
	one := of(2, val(1, 2), val(3, 4))
	unlike := map[string]api.Column{
		"the width":       {Width: 1, Rows: 2, Words: []uint64{1, 2, 3, 4}},
		"the rows":        {Width: 2, Rows: 1, Words: []uint64{1, 2, 3, 4}},
		"the first word":  of(2, val(0, 2), val(3, 4)),
		"the last word":   of(2, val(1, 2), val(3, 5)),
		"the order":       of(2, val(3, 4), val(1, 2)),
		"one word fewer":  {Width: 2, Rows: 2, Words: []uint64{1, 2, 3}},
		"one word more":   {Width: 2, Rows: 2, Words: []uint64{1, 2, 3, 4, 0}},
		"no words":        {Width: 2, Rows: 2},
		"nothing":         {},
		"width and rows":  {Width: 4, Rows: 1, Words: []uint64{1, 2, 3, 4}},
		"a row more":      of(2, val(1, 2), val(3, 4), val(0, 0)),
		"a row fewer":     of(2, val(1, 2)),
		"a width below 0": {Width: -2, Rows: 2, Words: []uint64{1, 2, 3, 4}},
		"rows below 0":    {Width: 2, Rows: -2, Words: []uint64{1, 2, 3, 4}},
	}
	for name, c := range unlike {
		if column.Same(one, c) || column.Same(c, one) {
			t.Error(name)
		}
		if !column.Same(c, clone(c)) {
			t.Error(name, "is not itself")
		}
	}
	if !column.Same(one, of(2, val(1, 2), val(3, 4))) {
		t.Error("the same is not the same")
	}
	if !column.Same(api.Column{Width: 3}, api.Column{Width: 3, Words: []uint64{}}) {
		t.Error("nil and empty are not one")
	}
	if column.Same(bare(3), bare(4)) || column.Same(api.Column{Width: 1}, api.Column{Width: 2}) {
		t.Error("without words rows, or widths, do not count")
	}
	if !column.Same(one, api.Column{Width: 2, Rows: 2, Words: append(make([]uint64, 0, 9), 1, 2, 3, 4)}) {
		t.Error("the room behind counts")
	}
	for name, c := range bad() {
		if !column.Same(c, c) || column.Same(c, one) {
			t.Error(name)
		}
	}
}

// P8.2: each row has its words, the first one and the last one, too.
func TestGet(t *testing.T) {
	for name, c := range good() {
		for row, want := range valuesOf(c) {
			if v, e := column.Get(c, row); e != api.OK || !sameValues([]api.Value{v}, []api.Value{want}) {
				t.Errorf("%s: %d: %v %d", name, row, v, e)
			}
		}
		for _, row := range wrongRows(c) {
			if v, e := column.Get(c, row); e != api.ErrArg || len(v) != 0 {
				t.Errorf("%s: %d: %v %d", name, row, v, e)
			}
		}
	}
}

// P8.2: of as many rows as may be each is told at its place.
func TestGetGreat(t *testing.T) {
	for name, c := range great() {
		for _, row := range []int{0, 1, c.Rows / 2, c.Rows - 1} {
			v, e := column.Get(c, row)
			if e != api.OK || len(v) != c.Width {
				t.Fatalf("%s: %d: %v %d", name, row, v, e)
			}
			for k, word := range v {
				if word != uint64(row*c.Width+k) {
					t.Errorf("%s: %d: %v", name, row, v)
				}
			}
		}
		for _, row := range wrongRows(c) {
			if v, e := column.Get(c, row); e != api.ErrArg || len(v) != 0 {
				t.Errorf("%s: %d: %v %d", name, row, v, e)
			}
		}
	}
}

// P8.2: that row has the value, and no other row another one.
func TestSet(t *testing.T) {
	for name, c := range good() {
		for row := range c.Rows {
			for _, v := range []api.Value{make(api.Value, c.Width), counted(c.Width, 1, top-8)[0]} {
				want := valuesOf(c)
				want[row] = v
				if next, e := column.Set(c, row, v); e != api.OK || !has(next, c.Width, want) {
					t.Errorf("%s: %d: %v %d", name, row, next, e)
				}
			}
		}
	}
}

// P8.2: no such row goes ahead of a value of another width.
func TestSetWrong(t *testing.T) {
	for name, c := range good() {
		right := make(api.Value, c.Width)
		for _, row := range wrongRows(c) {
			for _, v := range append(wrongValues(c.Width), right) {
				if next, e := column.Set(c, row, v); e != api.ErrArg || !isZero(next) {
					t.Errorf("%s: %d: %v %d", name, row, next, e)
				}
			}
		}
		for row := range c.Rows {
			for _, v := range wrongValues(c.Width) {
				if next, e := column.Set(c, row, v); e != api.ErrValue || !isZero(next) {
					t.Errorf("%s: %d, %d words: %v %d", name, row, len(v), next, e)
				}
			}
		}
	}
}

// P8.2: all rows, in order; none of what may not be.
func TestRows(t *testing.T) {
	for name, c := range good() {
		if got := column.Rows(c); !sameValues(got, valuesOf(c)) {
			t.Errorf("%s: %v", name, got)
		}
	}
	for name, c := range great() {
		if got := column.Rows(c); !sameValues(got, valuesOf(c)) {
			t.Errorf("%s: %d", name, len(got))
		}
	}
	for name, c := range bad() {
		if got := column.Rows(c); len(got) != 0 {
			t.Errorf("%s: %d", name, len(got))
		}
	}
}

// P8.3: one row more for each, in order, behind the others: none, one, several.
func TestPush(t *testing.T) {
	for name, c := range good() {
		for _, many := range []int{0, 1, 2, 3, 20} {
			l := counted(c.Width, many, 1<<40)
			if next, e := column.Push(c, l...); e != api.OK || !has(next, c.Width, behind(valuesOf(c), l...)) {
				t.Errorf("%s, %d: %v %d", name, many, next, e)
			}
		}
		twice := counted(c.Width, 1, 5)[0]
		if next, e := column.Push(c, twice, twice); e != api.OK || !has(next, c.Width, behind(valuesOf(c), twice, twice)) {
			t.Errorf("%s, the same one: %v %d", name, next, e)
		}
	}
}

// P8.3: values of no words are rows, too, nil or empty.
func TestPushBare(t *testing.T) {
	for _, rows := range []int{0, 1, 5} {
		next, e := column.Push(bare(rows), nil, api.Value{}, make(api.Value, 0, 4))
		if e != api.OK || next.Rows != rows+3 || next.Width != 0 || len(next.Words) != 0 {
			t.Error(rows, next, e)
		}
	}
}

// P8.3: values of another width, wherever one stands among right ones.
func TestPushWrong(t *testing.T) {
	for name, c := range good() {
		for _, v := range wrongValues(c.Width) {
			for _, many := range []int{1, 2, 5} {
				for at := range many {
					l := counted(c.Width, many, 1)
					l[at] = v
					if next, e := column.Push(c, l...); e != api.ErrValue || !isZero(next) {
						t.Errorf("%s: %d words at %d of %d: %v %d", name, len(v), at, many, next, e)
					}
				}
			}
		}
	}
	// As many words in all as right ones had.
	if next, e := column.Push(of(2), val(1), val(2, 3, 4)); e != api.ErrValue || !isZero(next) {
		t.Error(next, e)
	}
}

// P8.3: up to MaxIndex rows, and no further; a wrong value goes ahead.
func TestPushFull(t *testing.T) {
	for _, width := range []int{0, 1, api.MaxWidth} {
		full, less := long(width, api.MaxIndex), long(width, api.MaxIndex-2)
		v, wrong := make(api.Value, width), make(api.Value, width+1)
		for _, q := range []struct {
			name string
			c    api.Column
			l    []api.Value
			rows int
			want api.Errno
		}{
			{"none", full, nil, api.MaxIndex, api.OK},
			{"one more", full, []api.Value{v}, 0, api.ErrFull},
			{"two more", full, []api.Value{v, v}, 0, api.ErrFull},
			{"a wrong one", full, []api.Value{wrong}, 0, api.ErrValue},
			{"a wrong one behind", full, []api.Value{v, v, wrong}, 0, api.ErrValue},
			{"the last but one", less, []api.Value{v}, api.MaxIndex - 1, api.OK},
			{"the last", less, []api.Value{v, v}, api.MaxIndex, api.OK},
			{"one beyond the last", less, []api.Value{v, v, v}, 0, api.ErrFull},
			{"a wrong one beyond", less, []api.Value{v, v, v, wrong}, 0, api.ErrValue},
			{"a wrong one ahead", less, []api.Value{wrong, v, v}, 0, api.ErrValue},
		} {
			next, e := column.Push(q.c, q.l...)
			if e != q.want || next.Rows != q.rows {
				t.Errorf("%d wide, %s: %d %d", width, q.name, next.Rows, e)
			}
			if e != api.OK && !isZero(next) || e == api.OK && (!isColumn(next) || next.Width != width) {
				t.Errorf("%d wide, %s: what comes", width, q.name)
			}
		}
	}
}

// P8.3: all rows at once.
func TestPushAllAtOnce(t *testing.T) {
	l := make([]api.Value, api.MaxIndex+1)
	if next, e := column.Push(bare(0), l[1:]...); e != api.OK || !has(next, 0, l[1:]) {
		t.Error(next.Rows, e)
	}
	if next, e := column.Push(bare(0), l...); e != api.ErrFull || !isZero(next) {
		t.Error(next.Rows, e)
	}
	if next, e := column.Push(bare(1), l[1:]...); e != api.ErrFull || !isZero(next) {
		t.Error(next.Rows, e)
	}
	l[api.MaxIndex] = val(1)
	if next, e := column.Push(bare(0), l...); e != api.ErrValue || !isZero(next) {
		t.Error(next.Rows, e)
	}
}

// P8.3: the last row stands in the place of the one that goes; the last one itself goes; of one row none is left.
func TestSwap(t *testing.T) {
	for name, c := range good() {
		for row := range c.Rows {
			if next, e := column.Swap(c, row); e != api.OK || !has(next, c.Width, without(valuesOf(c), row)) {
				t.Errorf("%s: %d: %v %d", name, row, next, e)
			}
		}
		for _, row := range wrongRows(c) {
			if next, e := column.Swap(c, row); e != api.ErrArg || !isZero(next) {
				t.Errorf("%s: %d: %v %d", name, row, next, e)
			}
		}
	}
	if next, e := column.Swap(of(2, val(1, 2)), 0); e != api.OK || !has(next, 2, nil) {
		t.Error(next, e)
	}
}

// P8.3: of as many rows as may be each is swapped out alone.
func TestSwapGreat(t *testing.T) {
	for name, c := range great() {
		for _, row := range []int{0, c.Rows / 2, c.Rows - 2, c.Rows - 1} {
			if next, e := column.Swap(c, row); e != api.OK || !has(next, c.Width, without(valuesOf(c), row)) {
				t.Errorf("%s: %d: %d %d", name, row, next.Rows, e)
			}
		}
		for _, row := range wrongRows(c) {
			if next, e := column.Swap(c, row); e != api.ErrArg || !isZero(next) {
				t.Errorf("%s: %d: %d", name, row, e)
			}
		}
	}
}

// P8.4: the row is swapped out here, and stands behind all there, to itself as well.
func TestMove(t *testing.T) {
	for name, from := range good() {
		for _, rows := range []int{0, 1, 4} {
			moveEach(t, name, from, filled(from.Width, rows, 1<<50))
		}
		moveEach(t, name+", to itself", from, from)
	}
}

func moveEach(t *testing.T, name string, from, to api.Column) {
	t.Helper()
	for row, v := range valuesOf(from) {
		a, b, e := column.Move(from, to, row)
		if e != api.OK || !has(a, from.Width, without(valuesOf(from), row)) || !has(b, from.Width, behind(valuesOf(to), v)) {
			t.Errorf("%s: %d: %v %v %d", name, row, a, b, e)
		}
	}
}

// noMove asks for an error, and for nothing beside it.
func noMove(t *testing.T, name string, from, to api.Column, row int, want api.Errno) {
	t.Helper()
	if a, b, e := column.Move(from, to, row); e != want || !isZero(a) || !isZero(b) {
		t.Errorf("%s: row %d: %d, not %d", name, row, e, want)
	}
}

// P8.4: no such row, of to, too, and unlike widths.
func TestMoveWrong(t *testing.T) {
	for name, from := range good() {
		for _, row := range wrongRows(from) {
			noMove(t, name, from, from, row, api.ErrArg)
			noMove(t, name, from, filled(from.Width, 20, 1), row, api.ErrArg)
		}
		for width := range api.MaxWidth + 1 {
			for row := range from.Rows {
				if width != from.Width {
					noMove(t, name, from, filled(width, 3, 1), row, api.ErrArg)
					noMove(t, name, from, filled(width, 0, 1), row, api.ErrArg)
				}
			}
		}
	}
}

// P8.4: into the last row that may be, and no further; no such row, and unlike widths, go ahead.
func TestMoveFull(t *testing.T) {
	for _, width := range []int{0, 1, api.MaxWidth} {
		from := filled(width, 3, 1<<40)
		full, less := long(width, api.MaxIndex), long(width, api.MaxIndex-1)
		other := filled((width+1)%(api.MaxWidth+1), 3, 1)
		a, b, e := column.Move(from, less, 0)
		if e != api.OK || !has(a, width, without(valuesOf(from), 0)) || !has(b, width, behind(valuesOf(less), valuesOf(from)[0])) {
			t.Error(width, e)
		}
		if a, b, e = column.Move(full, from, 5); e != api.OK || !has(a, width, without(valuesOf(full), 5)) || b.Rows != 4 {
			t.Error(width, e)
		}
		noMove(t, "full", from, full, 0, api.ErrFull)
		noMove(t, "full, the last row", from, full, 2, api.ErrFull)
		noMove(t, "full, to itself", full, full, 0, api.ErrFull)
		noMove(t, "full, no such row", from, full, 3, api.ErrArg)
		noMove(t, "full, a row below", from, full, -1, api.ErrArg)
		noMove(t, "full, unlike widths", other, full, 0, api.ErrArg)
		noMove(t, "full, no rows", filled(width, 0, 1), full, 0, api.ErrArg)
	}
}

// P8.2 to P8.4: the chapter's examples.
func TestExamples(t *testing.T) {
	c := of(2, val(1, 2), val(3, 4), val(5, 6))
	if v, e := column.Get(c, 1); e != api.OK || !slices.Equal(v, val(3, 4)) {
		t.Error(v, e)
	}
	if v, e := column.Get(c, 3); e != api.ErrArg || len(v) != 0 {
		t.Error(v, e)
	}
	if next, e := column.Set(c, 1, val(9)); e != api.ErrValue || !isZero(next) {
		t.Error(next, e)
	}
	if next, e := column.Swap(c, 0); e != api.OK || !has(next, 2, []api.Value{val(5, 6), val(3, 4)}) {
		t.Error(next, e)
	}
	if next, e := column.Swap(c, 2); e != api.OK || !has(next, 2, []api.Value{val(1, 2), val(3, 4)}) {
		t.Error(next, e)
	}
	a, b, e := column.Move(c, of(2), 1)
	if e != api.OK || !has(a, 2, []api.Value{val(1, 2), val(5, 6)}) || !has(b, 2, []api.Value{val(3, 4)}) {
		t.Error(a, b, e)
	}
	if next, e := column.Push(of(0), nil); e != api.OK || next.Rows != 1 || len(next.Words) != 0 {
		t.Error(next, e)
	}
}

// P8.2 to P8.4: of what may not be ErrColumn is told, ahead of all else.
func TestErrColumn(t *testing.T) {
	some := of(2, val(1, 2), val(3, 4))
	full := bare(api.MaxIndex)
	for name, c := range bad() {
		for _, row := range []int{0, 1, -1, c.Rows, math.MaxInt, math.MinInt} {
			if v, e := column.Get(c, row); e != api.ErrColumn || len(v) != 0 {
				t.Errorf("%s: get %d: %d", name, row, e)
			}
			for _, v := range []api.Value{nil, val(1), val(1, 2), val(1, 2, 3, 4, 5)} {
				if next, e := column.Set(c, row, v); e != api.ErrColumn || !isZero(next) {
					t.Errorf("%s: set %d: %d", name, row, e)
				}
				if next, e := column.Push(c, v); e != api.ErrColumn || !isZero(next) {
					t.Errorf("%s: push: %d", name, e)
				}
			}
			if next, e := column.Swap(c, row); e != api.ErrColumn || !isZero(next) {
				t.Errorf("%s: swap %d: %d", name, row, e)
			}
			for _, other := range []api.Column{some, full, {}, c} {
				noMove(t, name+", from", c, other, row, api.ErrColumn)
				noMove(t, name+", to", other, c, row, api.ErrColumn)
			}
		}
		if next, e := column.Push(c); e != api.ErrColumn || !isZero(next) {
			t.Errorf("%s: push none: %d", name, e)
		}
	}
}
