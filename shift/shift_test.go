package shift_test

import (
	"math"
	"slices"
	"testing"

	"windrose/api"
	"windrose/shift"
)

// asked asks Move for what the words say.
func asked(t *testing.T, name string, from, to api.Table, row int) {
	t.Helper()
	got, e := shift.Move(from, to, row)
	want, fault := wanted(from, to, row)
	if e != fault || !sameMoved(got, want) {
		t.Errorf("%s, row %d: %v %d, not %v %d", name, row, got, e, want, fault)
	}
}

// askedAlong asks Along for what the words say.
func askedAlong(t *testing.T, name string, from, to api.Table, l ...int) {
	t.Helper()
	a, b, e := shift.Along(from, to, l...)
	x, y, fault := wantedAlong(from, to, l...)
	if e != fault || !same(a, x) || !same(b, y) {
		t.Errorf("%s, %v: %v %v %d, not %v %v %d", name, l, a, b, e, x, y, fault)
	}
}

// example is the chapter's two tables.
func example() (api.Table, api.Table) {
	a := of(ids(comp(1), comp(2)), []int{1, 1}, line{entity(5, 0), vals(val(7), val(8))}, line{entity(6, 0), vals(val(9), val(10))})
	return a, of(ids(comp(2), comp(3)), []int{1, 2})
}

// The chapter's examples, each part of what they answer.
func TestExamples(t *testing.T) {
	a, b := example()
	m, e := shift.Move(a, b, 0)
	from := of(a.Type, []int{1, 1}, line{entity(6, 0), vals(val(9), val(10))})
	to := of(b.Type, []int{1, 2}, line{entity(5, 0), vals(val(8), val(0, 0))})
	if e != api.OK || !sameMoved(m, api.Moved{From: from, To: to, Row: 0, Who: entity(6, 0)}) {
		t.Error(m, e)
	}
	if l, e := shift.Lost(a, b); e != api.OK || !slices.Equal(l, ids(comp(1))) {
		t.Error(l, e)
	}
	if l, e := shift.New(a, b); e != api.OK || !slices.Equal(l, ids(comp(3))) {
		t.Error(l, e)
	}
	none, both, e := shift.Along(a, b, 0, 0)
	to = of(b.Type, []int{1, 2}, line{entity(5, 0), vals(val(8), val(0, 0))}, line{entity(6, 0), vals(val(10), val(0, 0))})
	if e != api.OK || !same(none, of(a.Type, []int{1, 1})) || !same(both, to) {
		t.Error(none, both, e)
	}
	if m, e := shift.Move(a, b, 2); e != api.ErrArg || !sameMoved(m, api.Moved{}) {
		t.Error(m, e)
	}
	if m, e := shift.Move(a, a, 0); e != api.ErrThere || !sameMoved(m, api.Moved{}) {
		t.Error(m, e)
	}
}

// P11.1: each row of all these tables, and such as they have not: the first, those between, the last; types with all, some, nothing in common, and without ids; bare ids, and the widest.
func TestMove(t *testing.T) {
	told := map[api.Errno]int{}
	for _, p := range couples() {
		mayBe(t, p.name, p.from, true)
		mayBe(t, p.name, p.to, true)
		for row := -1; row <= len(p.from.Entities); row++ {
			asked(t, p.name, p.from, p.to, row)
			told[fault(p.from, p.to, row)]++
		}
	}
	for _, e := range []api.Errno{api.OK, api.ErrArg, api.ErrWidth, api.ErrThere} {
		if told[e] < 100 {
			t.Errorf("%d is asked but %d times", e, told[e])
		}
	}
}

// P11.1: what comes, written out: the entity behind all others there, what is shared as it was, all else 0, the last one in its place.
func TestMoveWrittenOut(t *testing.T) {
	l, m := ids(comp(1), comp(2), pair(1, 2)), ids(comp(2), pair(1, 2), pair(3, 4), pair(5, 6))
	a := line{entity(10, 7), vals(val(1), val(2, 3, 4, 5), nil)}
	b := line{entity(11, 0), vals(val(11), val(12, 13, 14, 15), nil)}
	c := line{entity(1, 3), vals(val(top), val(top, top, top, top), nil)}
	from := of(l, []int{1, 4, 0}, a, b, c)
	x := line{entity(api.MaxIndex, 1), vals(val(6, 7, 8, 9), nil, val(1, 2), nil)}
	to := of(m, []int{4, 0, 2, 0}, x)
	for row, want := range []struct {
		rest []line
		who  api.Id
		last line
	}{
		{[]line{c, b}, c.who, line{a.who, vals(val(2, 3, 4, 5), nil, val(0, 0), nil)}},
		{[]line{a, c}, c.who, line{b.who, vals(val(12, 13, 14, 15), nil, val(0, 0), nil)}},
		{[]line{a, b}, 0, line{c.who, vals(val(top, top, top, top), nil, val(0, 0), nil)}},
	} {
		got, e := shift.Move(from, to, row)
		if e != api.OK || !sameMoved(got, api.Moved{From: of(l, []int{1, 4, 0}, want.rest...), To: of(m, []int{4, 0, 2, 0}, x, want.last), Row: 1, Who: want.who}) {
			t.Error(row, got, e)
		}
	}
}

// P11.1: of one row none is left, and nobody stands in its place; a table without rows gets its first one.
func TestMoveTheOnlyRow(t *testing.T) {
	for name, a := range kinds() {
		for other, b := range kinds() {
			from, to := filled(a.l, a.widths, 1, 10), filled(b.l, b.widths, 0, 0)
			if unlike(from, to) {
				continue
			}
			got, e := shift.Move(from, to, 0)
			if e != api.OK || got.Who != 0 || got.Row != 0 || len(got.From.Entities) != 0 || !slices.Equal(got.To.Entities, from.Entities) || !isTable(got.From) || !isTable(got.To) {
				t.Error(name, other, got, e)
			}
		}
	}
}

// smallKinds are all types of these ids, each of each of the widths.
func smallKinds(l []api.Id, widths ...int) []kind {
	all := []kind{{}}
	for _, id := range l {
		for _, k := range all {
			for _, width := range widths {
				all = append(all, kind{append(slices.Clone(k.l), id), append(slices.Clone(k.widths), width)})
			}
		}
	}
	return all
}

// P11.1 to P11.3: of all small types and widths.
func TestAllSmall(t *testing.T) {
	all := smallKinds(ids(comp(1), comp(2), pair(1, 2)), 0, 1, 2)
	for _, a := range all {
		for _, b := range all {
			for _, there := range []int{0, 2} {
				from, to := filled(a.l, a.widths, 3, 10), filled(b.l, b.widths, there, 12)
				for row := range 4 {
					asked(t, "small", from, to, row)
				}
				askedAlong(t, "small", from, to, 1, 0)
				askedAlong(t, "small", from, to, 0, 2, 0)
			}
		}
	}
}

// P11.1: no such row, whichever number below 0 or behind the last one.
func TestMoveNoRow(t *testing.T) {
	for _, p := range couples() {
		for _, row := range wrongRows(p.from) {
			if got, e := shift.Move(p.from, p.to, row); e != api.ErrArg || !sameMoved(got, api.Moved{}) {
				t.Errorf("%s, row %d: %v %d", p.name, row, got, e)
			}
		}
	}
}

// P11.1: a table that may not be, the first or the second or both, goes ahead of all else: of no such row, of unlike widths, of an index that is there.
func TestMoveBad(t *testing.T) {
	for name, one := range bad() {
		mayBe(t, name, one, false)
		for other, good := range partners() {
			for _, row := range []int{0, 1, 2, -1, 3, 77, math.MinInt, math.MaxInt} {
				for _, two := range [][2]api.Table{{one, good}, {good, one}, {one, one}} {
					if got, e := shift.Move(two[0], two[1], row); e != api.ErrTable || !sameMoved(got, api.Moved{}) {
						t.Errorf("%s; %s, row %d: %v %d", name, other, row, got, e)
					}
				}
			}
		}
	}
}

// partners are tables that may be, to be handed in beside such that may not: some have rows, and ids of unlike widths.
func partners() map[string]api.Table {
	return map[string]api.Table{
		"zero":       {},
		"bare rows":  bare(entity(5, 0), entity(100, 0), entity(3, 1)),
		"others":     filled(ids(comp(1), pair(2, 1)), []int{2, 1}, 3, 100),
		"in common":  filled(ids(comp(1), pair(2, 1)), []int{2, 1}, 3, 3),
		"unlike":     filled(ids(comp(1), comp(2)), []int{3, 3}, 2, 100),
		"no rows":    filled(ids(comp(1), comp(2)), []int{2, 0}, 0, 100),
		"one, as it": filled(ids(pair(2, 1)), []int{1}, 1, 4),
	}
}

// P11.1: unlike widths of what both have, wherever it stands; they go ahead of an index that is there.
func TestMoveWidth(t *testing.T) {
	l, widths := twelve()
	for at := range l {
		for width := range api.MaxWidth + 1 {
			other := slices.Clone(widths)
			other[at] = width
			want := api.ErrWidth
			if width == widths[at] {
				want = api.OK
			}
			from, to := filled(l, widths, 2, 10), filled(l[at:], other[at:], 1, 100)
			there := filled(l[:at+1], other[:at+1], 2, 10)
			for row := range 2 {
				if _, e := shift.Move(from, to, row); e != want {
					t.Error(at, width, row, e)
				}
				if _, e := shift.Move(to, from, 0); e != want {
					t.Error(at, width, row, e)
				}
				if got, e := shift.Move(from, there, row); width != widths[at] && (e != api.ErrWidth || !sameMoved(got, api.Moved{})) {
					t.Error(at, width, row, e)
				} else if width == widths[at] && e != api.ErrThere {
					t.Error(at, width, row, e)
				}
			}
			// What one of both has alone may be of any width.
			if _, e := shift.Move(from, filled(ids(comp(3)), []int{width}, 1, 100), 0); e != api.OK {
				t.Error(at, width, e)
			}
		}
	}
}

// P11.1: unlike widths are asked of tables without values, too: there is no row, which goes ahead; or the second one has none.
func TestMoveWidthNoRows(t *testing.T) {
	l := ids(comp(1))
	if _, e := shift.Move(filled(l, []int{1}, 0, 0), filled(l, []int{2}, 2, 10), 0); e != api.ErrArg {
		t.Error(e)
	}
	if _, e := shift.Move(filled(l, []int{0}, 1, 5), filled(l, []int{1}, 0, 0), 0); e != api.ErrWidth {
		t.Error(e)
	}
	if _, e := shift.Move(filled(l, []int{1}, 1, 5), filled(l, []int{0}, 0, 0), 0); e != api.ErrWidth {
		t.Error(e)
	}
}

// P11.1: an entity whose index the second table has, in whichever row, of the same generation or another one.
func TestMoveThere(t *testing.T) {
	l := ids(comp(1), comp(2))
	from := filled(l, []int{1, 2}, 3, 10)
	for row, who := range from.Entities {
		for gen := range api.MaxGen + 1 {
			for place := range 4 {
				for _, k := range kinds() {
					to := filled(k.l, k.widths, 4, 100)
					to.Entities[place] = entity(indexOf(who), gen)
					want := api.ErrThere
					if unlike(from, to) {
						want = api.ErrWidth
					}
					if got, e := shift.Move(from, to, row); e != want || !sameMoved(got, api.Moved{}) {
						t.Error(row, gen, place, got, e)
					}
					// The others' can go there, all the same.
					asked(t, "the others", from, to, (row+1)%3)
				}
			}
		}
	}
}

// P11.1: up to MaxIndex rows; of so many one has the index, whichever it is, which goes ahead of there being no room.
func TestMoveGreat(t *testing.T) {
	less, full := great(api.MaxIndex-1), great(api.MaxIndex)
	one := filled(ids(comp(1)), []int{1}, 2, 1)
	got, e := shift.Move(one, less, 0)
	if e != api.OK || got.Row != api.MaxIndex-1 || got.Who != entity(2, 2) || len(got.To.Entities) != api.MaxIndex || got.To.Entities[got.Row] != entity(1, 1) || !isTable(got.To) {
		t.Error(got.Row, got.Who, e)
	}
	if _, e := shift.Move(one, less, 1); e != api.ErrThere {
		t.Error(e)
	}
	for row := range 2 {
		if got, e := shift.Move(one, full, row); e != api.ErrThere || !sameMoved(got, api.Moved{}) {
			t.Error(row, e)
		}
	}
	got, e = shift.Move(full, filled(ids(comp(1)), []int{1}, 0, 0), 1)
	if e != api.OK || len(got.From.Entities) != api.MaxIndex-1 || got.Who != full.Entities[api.MaxIndex-1] || got.From.Entities[1] != got.Who || got.To.Entities[0] != full.Entities[1] {
		t.Error(got.Who, e)
	}
}

// rowsOf are all rows of numbers up to that long: of the rows of a table, and the ones next to these.
func rowsOf(many, long int) [][]int {
	all := [][]int{nil}
	for from := 0; from < len(all) && len(all[from]) < long; from++ {
		for row := -1; row <= many; row++ {
			all = append(all, append(slices.Clone(all[from]), row))
		}
	}
	return all
}

// P11.2: all short rows of numbers: none, one, one named twice, such as are not there any more by then, and such as never were.
func TestAlong(t *testing.T) {
	l, m := kinds()["c1 c2"], kinds()["c2 c3"]
	for rows := range 4 {
		for _, l2 := range rowsOf(rows, 4) {
			from := filled(l.l, l.widths, rows, 10)
			askedAlong(t, "no rows there", from, filled(m.l, m.widths, 0, 0), l2...)
			askedAlong(t, "rows there", from, filled(m.l, m.widths, 2, 100), l2...)
			askedAlong(t, "one in common", from, filled(m.l, m.widths, 2, 11), l2...)
			askedAlong(t, "unlike", from, filled(ids(comp(2)), []int{4}, 2, 11), l2...)
			askedAlong(t, "to itself", from, from, l2...)
		}
	}
}

// P11.2: of tables of all sorts, some rows: all from the front, all from behind, and one too many.
func TestAlongSorts(t *testing.T) {
	for _, p := range couples() {
		many := len(p.from.Entities)
		front := make([]int, many)
		askedAlong(t, p.name, p.from, p.to)
		askedAlong(t, p.name, p.from, p.to, front...)
		askedAlong(t, p.name, p.from, p.to, append(front, 0)...)
		var back []int
		for row := range many {
			back = append(back, many-1-row)
		}
		askedAlong(t, p.name, p.from, p.to, back...)
		askedAlong(t, p.name, p.from, p.to, append(back, -1)...)
	}
}

// P11.2: each of what is there by then: the same row twice is two of them; one that is not there any more is none.
func TestAlongWrittenOut(t *testing.T) {
	from := bare(entity(10, 0), entity(11, 0), entity(12, 0), entity(13, 0))
	for _, q := range []struct {
		l        []int
		rest, to []api.Id
		e        api.Errno
	}{
		{nil, from.Entities, nil, api.OK},
		{[]int{1}, ids(entity(10, 0), entity(13, 0), entity(12, 0)), ids(entity(11, 0)), api.OK},
		{[]int{1, 1}, ids(entity(10, 0), entity(12, 0)), ids(entity(11, 0), entity(13, 0)), api.OK},
		{[]int{3, 1}, ids(entity(10, 0), entity(12, 0)), ids(entity(13, 0), entity(11, 0)), api.OK},
		{[]int{0, 1, 2}, nil, nil, api.ErrArg},
		{[]int{0, 1, 1, 0}, nil, ids(entity(10, 0), entity(11, 0), entity(12, 0), entity(13, 0)), api.OK},
		{[]int{3, 3}, nil, nil, api.ErrArg},
		{[]int{0, 3}, nil, nil, api.ErrArg},
		{[]int{0, 0, 0, 0, 0}, nil, nil, api.ErrArg},
		{[]int{-1, 0}, nil, nil, api.ErrArg},
	} {
		a, b, e := shift.Along(from, api.Table{}, q.l...)
		if e != q.e || !slices.Equal(a.Entities, q.rest) || !slices.Equal(b.Entities, q.to) {
			t.Error(q.l, a, b, e)
		}
	}
}

// P11.2: the error of the first row that has one, whatever the ones behind it have; nothing beside it.
func TestAlongFirstError(t *testing.T) {
	from := bare(entity(10, 0), entity(11, 0), entity(12, 0))
	to := bare(entity(5, 0), entity(11, 4))
	for _, q := range []struct {
		l []int
		e api.Errno
	}{
		{[]int{1, 7}, api.ErrThere}, {[]int{7, 1}, api.ErrArg}, {[]int{0, 1, 7}, api.ErrThere}, {[]int{0, 7, 1}, api.ErrArg},
		{[]int{0, 0, 0}, api.ErrThere}, {[]int{0, 2}, api.ErrArg}, {[]int{2, 1, 1}, api.ErrThere}, {[]int{2, 0, -1}, api.ErrArg},
	} {
		a, b, e := shift.Along(from, to, q.l...)
		if e != q.e || !isZero(a) || !isZero(b) {
			t.Error(q.l, a, b, e)
		}
	}
	l := ids(comp(1))
	one, other := filled(l, []int{1}, 2, 10), filled(l, []int{2}, 2, 10)
	for _, q := range []struct {
		l []int
		e api.Errno
	}{{[]int{0, 7}, api.ErrWidth}, {[]int{7, 0}, api.ErrArg}, {[]int{-1}, api.ErrArg}, {[]int{1, 1}, api.ErrWidth}} {
		a, b, e := shift.Along(one, other, q.l...)
		if e != q.e || !isZero(a) || !isZero(b) {
			t.Error(q.l, a, b, e)
		}
	}
}

// P11.2: a table that may not be goes ahead of all else, without rows, too: what comes may be.
func TestAlongBad(t *testing.T) {
	for name, one := range bad() {
		for other, good := range partners() {
			for _, l := range [][]int{nil, {}, {0}, {-1}, {0, 0}, {77}, {0, 77, 1}} {
				for _, two := range [][2]api.Table{{one, good}, {good, one}, {one, one}} {
					if a, b, e := shift.Along(two[0], two[1], l...); e != api.ErrTable || !isZero(a) || !isZero(b) {
						t.Errorf("%s; %s, %v: %v %v %d", name, other, l, a, b, e)
					}
				}
			}
		}
	}
}

// P11.2: without rows nothing is asked of both but that they may be.
func TestAlongNoRows(t *testing.T) {
	for _, p := range couples() {
		for _, l := range [][]int{nil, {}} {
			if a, b, e := shift.Along(p.from, p.to, l...); e != api.OK || !same(a, p.from) || !same(b, p.to) {
				t.Errorf("%s: %v %v %d", p.name, a, b, e)
			}
		}
	}
}

// lacks are the ids of one row that another one has not, one by one.
func lacks(l, other []api.Id) []api.Id {
	var all []api.Id
	for _, id := range l {
		if !slices.Contains(other, id) {
			all = append(all, id)
		}
	}
	return all
}

// P11.3: what is lost and what is new, in order; rows, widths and what is there don't count.
func TestLostAndNew(t *testing.T) {
	for _, p := range couples() {
		if l, e := shift.Lost(p.from, p.to); e != api.OK || !slices.Equal(l, lacks(p.from.Type, p.to.Type)) {
			t.Errorf("%s: lost %v %d", p.name, l, e)
		}
		if l, e := shift.New(p.from, p.to); e != api.OK || !slices.Equal(l, lacks(p.to.Type, p.from.Type)) {
			t.Errorf("%s: new %v %d", p.name, l, e)
		}
	}
}

// P11.3: of all types of some of these ids.
func TestLostAndNewAllSmall(t *testing.T) {
	all := smallKinds(ids(comp(1), comp(2), comp(24), pair(1, 2), pair(2, 1)), 0)
	for _, a := range all {
		for _, b := range all {
			from, to := filled(a.l, a.widths, 0, 0), filled(b.l, b.widths, 1, 5)
			l, e := shift.Lost(from, to)
			m, f := shift.New(from, to)
			if e != api.OK || f != api.OK || !slices.Equal(l, lacks(a.l, b.l)) || !slices.Equal(m, lacks(b.l, a.l)) {
				t.Error(a.l, b.l, l, m, e, f)
			}
		}
	}
}

// P11.3: written out: in order of both, and of what stands at either end, or between.
func TestLostAndNewWrittenOut(t *testing.T) {
	l, widths := twelve()
	from, to := filled(l, widths, 2, 10), filled(l[3:9], make([]int, 6), 2, 10)
	want := slices.Concat(l[:3], l[9:])
	if got, e := shift.Lost(from, to); e != api.OK || !slices.Equal(got, want) {
		t.Error(got, e)
	}
	if got, e := shift.New(from, to); e != api.OK || len(got) != 0 {
		t.Error(got, e)
	}
	if got, e := shift.Lost(to, from); e != api.OK || len(got) != 0 {
		t.Error(got, e)
	}
	if got, e := shift.New(to, from); e != api.OK || !slices.Equal(got, want) {
		t.Error(got, e)
	}
	if got, e := shift.Lost(from, api.Table{}); e != api.OK || !slices.Equal(got, l) {
		t.Error(got, e)
	}
	if got, e := shift.New(api.Table{}, from); e != api.OK || !slices.Equal(got, l) {
		t.Error(got, e)
	}
}

// P11.3: tables that may not be, the first or the second or both.
func TestLostAndNewBad(t *testing.T) {
	for name, one := range bad() {
		for other, good := range partners() {
			for _, two := range [][2]api.Table{{one, good}, {good, one}, {one, one}} {
				l, e := shift.Lost(two[0], two[1])
				m, f := shift.New(two[0], two[1])
				if e != api.ErrTable || f != api.ErrTable || len(l) != 0 || len(m) != 0 {
					t.Errorf("%s; %s: %v %d, %v %d", name, other, l, e, m, f)
				}
			}
		}
	}
}
