package table_test

import (
	"math"
	"slices"
	"testing"

	"windrose/api"
	"windrose/table"
)

// P9.1: of that type, with columns so wide, without rows.
func TestNew(t *testing.T) {
	many, mixed := twelve()
	for _, q := range []struct {
		l      []api.Id
		widths []int
	}{
		{nil, nil}, {ids(), []int{}}, {ids(comp(1)), []int{0}}, {ids(comp(24)), []int{4}},
		{ids(pair(1, 1)), []int{3}}, {ids(comp(1), pair(3, 4)), []int{1, 0}}, {many, mixed},
		{many, make([]int, 12)}, {many, slices.Repeat([]int{4}, 12)},
	} {
		got, e := table.New(q.l, q.widths...)
		if e != api.OK || !has(got, of(q.l, q.widths), nil) {
			t.Error(q.l, q.widths, got, e)
		}
	}
}

// P9.1: no type goes ahead of all widths.
func TestNewNoType(t *testing.T) {
	for name, l := range notTypes() {
		for _, widths := range [][]int{nil, make([]int, len(l)), make([]int, len(l)+1), {-1}, {5}} {
			if got, e := table.New(l, widths...); e != api.ErrType || !isZero(got) {
				t.Errorf("%s, %v: %v %d", name, widths, got, e)
			}
		}
	}
}

// P9.1: fewer and more widths than ids, and such that are no widths, wherever they stand.
func TestNewWrongWidths(t *testing.T) {
	many, mixed := twelve()
	for n := range 15 {
		if got, e := table.New(many, make([]int, n)...); n != 12 && (e != api.ErrArg || !isZero(got)) {
			t.Error(n, got, e)
		}
	}
	for at := range mixed {
		for _, width := range []int{-1, -4, math.MinInt, 5, 1 << 32, 1<<32 + 1, math.MaxInt} {
			wrong := slices.Clone(mixed)
			wrong[at] = width
			if got, e := table.New(many, wrong...); e != api.ErrArg || !isZero(got) {
				t.Error(at, width, got, e)
			}
		}
	}
	for _, widths := range [][]int{{0}, {0, 0}, {-1}} {
		if got, e := table.New(nil, widths...); e != api.ErrArg || !isZero(got) {
			t.Error(widths, got, e)
		}
	}
}

// P9.1: what may be, and what may not, each for one reason.
func TestCheck(t *testing.T) {
	all := good()
	all["all indexes"] = great(api.MaxIndex)
	all["all but one"] = great(api.MaxIndex - 1)
	for name, one := range all {
		if !isTable(one) {
			t.Fatalf("%s: the test's own is wrong", name)
		}
		if e := table.Check(one); e != api.OK {
			t.Errorf("%s: %d", name, e)
		}
	}
	for _, all := range []map[string]api.Table{bad(), badGreat()} {
		for name, one := range all {
			if isTable(one) {
				t.Fatalf("%s: the test's own is wrong", name)
			}
			if e := table.Check(one); e != api.ErrTable {
				t.Errorf("%s: %d", name, e)
			}
		}
	}
}

// P9.1: of all small rows of entities those may be that the words say.
func TestCheckAllSmall(t *testing.T) {
	some := ids(entity(1, 0), entity(1, 1), entity(2, 0), entity(65, 0), entity(65, 7), entity(api.MaxIndex, 0), entity(api.MaxIndex+1, 0), comp(1), 0)
	rows := [][]api.Id{nil}
	for from := 0; from < len(rows) && len(rows[from]) < 4; from++ {
		for _, id := range some {
			rows = append(rows, append(slices.Clone(rows[from]), id))
		}
	}
	for _, l := range rows {
		want := api.ErrTable
		if distinct(l) {
			want = api.OK
		}
		if e := table.Check(bare(l...)); e != want {
			t.Fatal(l, e)
		}
	}
}

// distinct tells whether all are entities, no two of one index, each held against each.
func distinct(l []api.Id) bool {
	for at, id := range l {
		if !isEntity(id) {
			return false
		}
		for _, ahead := range l[:at] {
			if indexOf(ahead) == indexOf(id) {
				return false
			}
		}
	}
	return true
}

// unlike are tables that each differ from that one in one part.
func unlike(like api.Table) map[string]api.Table {
	with := func(change func(t *api.Table)) api.Table {
		t := clone(like)
		change(&t)
		return t
	}
	return map[string]api.Table{
		"an id":             with(func(t *api.Table) { t.Type[1] = pair(2, 2) }),
		"the ids' order":    with(func(t *api.Table) { slices.Reverse(t.Type) }),
		"an id fewer":       with(func(t *api.Table) { t.Type = t.Type[:1] }),
		"an id more":        with(func(t *api.Table) { t.Type = append(t.Type, pair(2, 2)) }),
		"no ids":            with(func(t *api.Table) { t.Type = nil }),
		"a width":           with(func(t *api.Table) { t.Columns[0].Width = 1 }),
		"a column's rows":   with(func(t *api.Table) { t.Columns[1].Rows = 2 }),
		"the first word":    with(func(t *api.Table) { t.Columns[0].Words[0]++ }),
		"the last word":     with(func(t *api.Table) { t.Columns[1].Words[2]-- }),
		"a word fewer":      with(func(t *api.Table) { t.Columns[1].Words = t.Columns[1].Words[:2] }),
		"the columns' turn": with(func(t *api.Table) { slices.Reverse(t.Columns) }),
		"a column fewer":    with(func(t *api.Table) { t.Columns = t.Columns[:1] }),
		"a column more":     with(func(t *api.Table) { t.Columns = append(t.Columns, api.Column{Rows: 3}) }),
		"no columns":        with(func(t *api.Table) { t.Columns = nil }),
		"an entity":         with(func(t *api.Table) { t.Entities[2] = entity(9, 0) }),
		"a generation":      with(func(t *api.Table) { t.Entities[0] = entity(3, 4) }),
		"the order":         with(func(t *api.Table) { slices.Reverse(t.Entities) }),
		"an entity fewer":   with(func(t *api.Table) { t.Entities = t.Entities[:2] }),
		"an entity more":    with(func(t *api.Table) { t.Entities = append(t.Entities, entity(9, 0)) }),
		"nothing":           {},
	}
}

// P9.1: each part counts, its order too; what may not be is held against others, as well.
func TestSame(t *testing.T) {
	like := filled(ids(comp(1), pair(2, 1)), []int{2, 1}, 3)
	for name, one := range unlike(like) {
		if table.Same(like, one) || table.Same(one, like) {
			t.Error(name)
		}
	}
	if !table.Same(like, filled(ids(comp(1), pair(2, 1)), []int{2, 1}, 3)) || !table.Same(like, withRoom(like)) {
		t.Error("the same is not the same")
	}
	all := good()
	for name, one := range bad() {
		all["bad, "+name] = one
	}
	for name, one := range all {
		if !table.Same(one, clone(one)) {
			t.Error(name, "is not itself")
		}
	}
	if !table.Same(api.Table{}, api.Table{Type: ids(), Columns: []api.Column{}, Entities: ids()}) {
		t.Error("nil and empty are not one")
	}
	if table.Same(bare(entity(5, 0)), bare(entity(5, 1))) {
		t.Error("another generation is the same")
	}
}

// P9.2: the row of each; none of those that are not there, of other generations among them.
func TestRow(t *testing.T) {
	for name, one := range good() {
		for row, who := range one.Entities {
			if got, ok := table.Row(one, who); !ok || got != row {
				t.Errorf("%s: %x: %d %v", name, who, got, ok)
			}
			for gen := range 10 {
				other := entity(indexOf(who), gen)
				if got, ok := table.Row(one, other); other != who && (ok || got != 0) {
					t.Errorf("%s: %x: %d %v", name, other, got, ok)
				}
			}
		}
		for _, who := range append(notEntities(), entity(100, 0), entity(api.MaxIndex-2, 7), entity(66, 0)) {
			if got, ok := table.Row(one, who); ok || got != 0 {
				t.Errorf("%s: %x: %d %v", name, who, got, ok)
			}
		}
	}
}

// P9.2: of as many rows as may be each is found; of what may not be, none.
func TestRowGreatAndBad(t *testing.T) {
	one := great(api.MaxIndex)
	for _, row := range []int{0, 1, 1 << 19, api.MaxIndex - 1} {
		if got, ok := table.Row(one, one.Entities[row]); !ok || got != row {
			t.Error(row, got, ok)
		}
	}
	for name, one := range bad() {
		l := one.Entities[:min(len(one.Entities), 3)]
		for _, who := range append(slices.Clone(l), entity(5, 0), 0) {
			if got, ok := table.Row(one, who); ok || got != 0 {
				t.Errorf("%s: %x: %d %v", name, who, got, ok)
			}
		}
	}
}

// P9.2: the values of all columns in each row, in order.
func TestValues(t *testing.T) {
	for name, one := range good() {
		for row, want := range linesOf(one) {
			if got, e := table.Values(one, row); e != api.OK || !sameValues(got, want.vals) {
				t.Errorf("%s: %d: %v %d", name, row, got, e)
			}
		}
		for _, row := range wrongRows(one) {
			if got, e := table.Values(one, row); e != api.ErrArg || len(got) != 0 {
				t.Errorf("%s: %d: %v %d", name, row, got, e)
			}
		}
	}
}

// strange are ids that none of these tables has, of all kinds.
func strange() []api.Id {
	return append(notEntities()[:11:11], entity(5, 0), comp(6), comp(25), pair(1, 9), pair(0, 1), pair(1, 0), pair(0, 0))
}

// P9.2: each id's value in each row.
func TestGet(t *testing.T) {
	for name, one := range good() {
		for row, want := range linesOf(one) {
			for at, id := range one.Type {
				if got, e := table.Get(one, row, id); e != api.OK || !slices.Equal(got, want.vals[at]) {
					t.Errorf("%s: %d, %x: %v %d", name, row, id, got, e)
				}
			}
		}
	}
}

// P9.2: no such row goes ahead of an id that the type has not.
func TestGetWrong(t *testing.T) {
	for name, one := range good() {
		for _, id := range append(strange(), one.Type...) {
			for _, row := range wrongRows(one) {
				if got, e := table.Get(one, row, id); e != api.ErrArg || len(got) != 0 {
					t.Errorf("%s: %d, %x: %v %d", name, row, id, got, e)
				}
			}
		}
		for row := range one.Entities {
			for _, id := range strange() {
				if got, e := table.Get(one, row, id); e != api.ErrNone || len(got) != 0 {
					t.Errorf("%s: %d, %x: %v %d", name, row, id, got, e)
				}
			}
		}
	}
}

// P9.3: one row more, behind the others.
func TestPush(t *testing.T) {
	for name, one := range good() {
		for _, who := range ids(entity(100, 0), entity(66, 7), entity(api.MaxIndex-7, 3)) {
			l := counted(widthsOf(one), 1<<40)
			next, e := table.Push(one, who, l)
			if e != api.OK || !has(next, one, behind(linesOf(one), line{who, l})) {
				t.Errorf("%s: %v %d", name, next, e)
			}
		}
	}
}

// P9.3: the least and the greatest index, and generation, come as well; and values of no words, nil or empty.
func TestPushEdges(t *testing.T) {
	l := ids(comp(1), comp(2), comp(3))
	one := filled(l, []int{0, 0, 0}, 2)
	for _, who := range ids(entity(1, 0), entity(1, 7), entity(2, 0), entity(api.MaxIndex, 0), entity(api.MaxIndex, 7)) {
		next, e := table.Push(one, who, vals(nil, val(), make(api.Value, 0, 4)))
		if e != api.OK || !has(next, one, behind(linesOf(one), line{who, vals(nil, nil, nil)})) {
			t.Error(who, next, e)
		}
	}
	for _, l := range [][]api.Value{nil, {}} {
		if next, e := table.Push(api.Table{}, entity(1, 0), l); e != api.OK || !has(next, api.Table{}, []line{{entity(1, 0), nil}}) {
			t.Error(next, e)
		}
	}
}

// noPush asks for an error, and for nothing beside it.
func noPush(t *testing.T, name string, one api.Table, who api.Id, l []api.Value, want api.Errno) {
	t.Helper()
	if next, e := table.Push(one, who, l); e != want || !isZero(next) {
		t.Errorf("%s: %x: %d, not %d", name, who, e, want)
	}
}

// P9.3: no entity, and not one value for each column, go ahead of one that is there, and of wrong values.
func TestPushWrongArgs(t *testing.T) {
	for name, one := range good() {
		right := counted(widthsOf(one), 9)
		wrong := slices.Repeat(vals(make(api.Value, 5)), len(right))
		for _, id := range notEntities() {
			noPush(t, name, one, id, right, api.ErrArg)
			noPush(t, name, one, id, wrong, api.ErrArg)
			noPush(t, name, one, id, nil, api.ErrArg)
		}
		for _, who := range append(slices.Clone(one.Entities), entity(100, 0)) {
			for n := range 15 {
				if n != len(right) {
					noPush(t, name, one, who, slices.Concat(right, make([]api.Value, 14))[:n], api.ErrArg)
					noPush(t, name, one, who, slices.Repeat(vals(make(api.Value, 5)), n), api.ErrArg)
				}
			}
		}
	}
}

// P9.3: an index that is there, of whichever generation, goes ahead of wrong values.
func TestPushThere(t *testing.T) {
	for name, one := range good() {
		right := counted(widthsOf(one), 9)
		for _, who := range one.Entities {
			for gen := range api.MaxGen + 1 {
				noPush(t, name, one, entity(indexOf(who), gen), right, api.ErrThere)
				for at, v := range right {
					wrong := slices.Clone(right)
					wrong[at] = append(slices.Clone(v), 1)
					noPush(t, name, one, entity(indexOf(who), gen), wrong, api.ErrThere)
				}
			}
		}
	}
}

// P9.3: a value of another width, wherever it stands among right ones.
func TestPushWrongValues(t *testing.T) {
	for name, one := range good() {
		right := counted(widthsOf(one), 9)
		for at, v := range right {
			for _, other := range wrongValues(len(v)) {
				wrong := slices.Clone(right)
				wrong[at] = other
				noPush(t, name, one, entity(100, 0), wrong, api.ErrValue)
			}
		}
	}
	// As many words in all as right ones had.
	one := filled(ids(comp(1), comp(2)), []int{1, 3}, 2)
	noPush(t, "turned about", one, entity(100, 0), vals(val(1, 2, 3), val(1)), api.ErrValue)
	noPush(t, "two and two", one, entity(100, 0), vals(val(1, 2), val(1, 2)), api.ErrValue)
}

// P9.3: up to MaxIndex rows; of so many one has the index, whichever it is, which goes ahead of there being no room.
func TestPushGreat(t *testing.T) {
	less := great(api.MaxIndex - 1)
	next, e := table.Push(less, entity(1, 5), nil)
	if e != api.OK || len(next.Entities) != api.MaxIndex || next.Entities[api.MaxIndex-1] != entity(1, 5) || !isTable(next) {
		t.Error(len(next.Entities), e)
	}
	noPush(t, "there, one less", less, entity(2, 0), nil, api.ErrThere)
	full := great(api.MaxIndex)
	for _, who := range ids(entity(1, 0), entity(1, 7), entity(2, 0), entity(api.MaxIndex, 0)) {
		noPush(t, "full", full, who, nil, api.ErrThere)
	}
	noPush(t, "no entity", full, comp(1), nil, api.ErrArg)
	noPush(t, "a value", full, entity(1, 0), vals(nil), api.ErrArg)
	for name, one := range badGreat() {
		noPush(t, name, one, entity(1, 0), nil, api.ErrTable)
	}
}

// P9.3: the last row stands in the place of the one that goes, and is told; the last one itself goes; of one row none is left.
func TestSwap(t *testing.T) {
	for name, one := range good() {
		for row := range one.Entities {
			last := len(one.Entities) - 1
			want := one.Entities[last]
			if row == last {
				want = 0
			}
			next, who, e := table.Swap(one, row)
			if e != api.OK || who != want || !has(next, one, without(linesOf(one), row)) {
				t.Errorf("%s: %d: %v %x %d", name, row, next, who, e)
			}
		}
		for _, row := range wrongRows(one) {
			if next, who, e := table.Swap(one, row); e != api.ErrArg || who != 0 || !isZero(next) {
				t.Errorf("%s: %d: %v %x %d", name, row, next, who, e)
			}
		}
	}
}

// P9.3: of as many rows as may be each is swapped out alone.
func TestSwapGreat(t *testing.T) {
	one := great(api.MaxIndex)
	for _, row := range []int{0, 1 << 19, api.MaxIndex - 2, api.MaxIndex - 1} {
		want := entity(1, (api.MaxIndex-1)%8)
		if row == api.MaxIndex-1 {
			want = 0
		}
		next, who, e := table.Swap(one, row)
		if e != api.OK || who != want || !has(next, one, without(linesOf(one), row)) {
			t.Error(row, len(next.Entities), who, e)
		}
	}
	if next, who, e := table.Swap(one, api.MaxIndex); e != api.ErrArg || who != 0 || !isZero(next) {
		t.Error(len(next.Entities), who, e)
	}
}

// P9.4: that value is that, and no other one another.
func TestSet(t *testing.T) {
	for name, one := range good() {
		for row, was := range linesOf(one) {
			for at, id := range one.Type {
				for _, v := range vals(make(api.Value, len(was.vals[at])), counted([]int{len(was.vals[at])}, top-8)[0]) {
					want := linesOf(one)
					want[row].vals = slices.Clone(want[row].vals)
					want[row].vals[at] = v
					if next, e := table.Set(one, row, id, v); e != api.OK || !has(next, one, want) {
						t.Errorf("%s: %d, %x: %v %d", name, row, id, next, e)
					}
				}
			}
		}
	}
}

// noSet asks for an error, and for nothing beside it.
func noSet(t *testing.T, name string, one api.Table, row int, id api.Id, v api.Value, want api.Errno) {
	t.Helper()
	if next, e := table.Set(one, row, id, v); e != want || !isZero(next) {
		t.Errorf("%s: %d, %x, %d words: %d, not %d", name, row, id, len(v), e, want)
	}
}

// P9.4: no such row goes ahead of an id that the type has not, and that ahead of a value of another width.
func TestSetWrong(t *testing.T) {
	for name, one := range good() {
		for _, row := range wrongRows(one) {
			for _, id := range append(strange(), one.Type...) {
				for n := range 6 {
					noSet(t, name, one, row, id, make(api.Value, n), api.ErrArg)
				}
			}
		}
		for row := range one.Entities {
			for _, id := range strange() {
				for n := range 6 {
					noSet(t, name, one, row, id, make(api.Value, n), api.ErrNone)
				}
			}
			for at, id := range one.Type {
				for _, v := range wrongValues(one.Columns[at].Width) {
					noSet(t, name, one, row, id, v, api.ErrValue)
				}
			}
		}
	}
}

// P9.1 to P9.4: what may not be goes ahead of all else.
func TestBadGoesAhead(t *testing.T) {
	for name, one := range bad() {
		for _, row := range []int{-1, 0, 1, 9} {
			for _, id := range ids(comp(1), pair(2, 1), comp(9), 0) {
				noSet(t, name, one, row, id, val(1, 2), api.ErrTable)
				noSet(t, name, one, row, id, val(1), api.ErrTable)
				if v, e := table.Get(one, row, id); e != api.ErrTable || len(v) != 0 {
					t.Errorf("%s: Get: %d", name, e)
				}
			}
			if l, e := table.Values(one, row); e != api.ErrTable || len(l) != 0 {
				t.Errorf("%s: Values: %d", name, e)
			}
			if next, who, e := table.Swap(one, row); e != api.ErrTable || who != 0 || !isZero(next) {
				t.Errorf("%s: Swap: %d", name, e)
			}
		}
		for _, who := range ids(entity(100, 0), entity(3, 0), entity(5, 0), 0, comp(1)) {
			for _, l := range [][]api.Value{nil, vals(val(1, 2), val(1)), vals(val(1), val(1)), vals(nil)} {
				noPush(t, name, one, who, l, api.ErrTable)
			}
		}
	}
}

// P9.1 to P9.4: the chapter's examples.
func TestExamples(t *testing.T) {
	one, e := table.New(ids(comp(1), pair(3, 4)), 1, 0)
	if e != api.OK {
		t.Fatal(e)
	}
	one, e = table.Push(one, entity(5, 0), vals(val(7), val()))
	if e != api.OK {
		t.Fatal(e)
	}
	one, e = table.Push(one, entity(6, 1), vals(val(8), val()))
	if e != api.OK || !table.Same(one, good()["the chapter's"]) {
		t.Fatal(one, e)
	}
	if row, ok := table.Row(one, entity(6, 1)); row != 1 || !ok {
		t.Error(row, ok)
	}
	if row, ok := table.Row(one, entity(6, 0)); row != 0 || ok {
		t.Error(row, ok)
	}
	if l, e := table.Values(one, 0); e != api.OK || !sameValues(l, vals(val(7), nil)) {
		t.Error(l, e)
	}
	if v, e := table.Get(one, 1, comp(1)); e != api.OK || !slices.Equal(v, val(8)) {
		t.Error(v, e)
	}
	if next, who, e := table.Swap(one, 0); e != api.OK || who != entity(6, 1) || !slices.Equal(next.Entities, ids(entity(6, 1))) {
		t.Error(next, who, e)
	}
	if next, who, e := table.Swap(one, 1); e != api.OK || who != 0 || !slices.Equal(next.Entities, ids(entity(5, 0))) {
		t.Error(next, who, e)
	}
	noPush(t, "there", one, entity(5, 3), vals(val(1), nil), api.ErrThere)
	noPush(t, "too wide", one, entity(7, 0), vals(val(1, 2), nil), api.ErrValue)
	if v, e := table.Get(one, 0, comp(2)); e != api.ErrNone || len(v) != 0 {
		t.Error(v, e)
	}
	noSet(t, "no row", one, 2, comp(1), val(1), api.ErrArg)
}
