package table_test

import (
	"math"
	"math/rand"
	"slices"
	"strconv"

	"windrose/api"
)

const top = math.MaxUint64

// Bits of ids, as the chapter of ids has them.
func entity(index, gen int) api.Id { return api.Id(gen)<<32 | api.Id(index) }
func comp(n int) api.Id            { return 1<<62 | api.Id(n) }
func pair(r, t int) api.Id         { return 1<<63 | api.Id(r)<<32 | api.Id(t) }

func ids(l ...api.Id) []api.Id         { return l }
func val(words ...uint64) api.Value    { return words }
func vals(l ...api.Value) []api.Value  { return l }
func indexOf(id api.Id) int            { return int(id & (1<<30 - 1)) }
func source(seed int64) *rand.Rand     { return rand.New(rand.NewSource(seed)) }
func sameValues(a, b []api.Value) bool { return slices.EqualFunc(a, b, slices.Equal[api.Value]) }

func isEntity(id api.Id) bool {
	index, gen := indexOf(id), int(id>>32)
	return id == entity(index, gen) && index >= 1 && index <= 1<<20+2 && gen <= 7
}

// line is a row, kept by itself.
type line struct {
	who  api.Id
	vals []api.Value
}

func sameLines(a, b []line) bool {
	return slices.EqualFunc(a, b, func(a, b line) bool { return a.who == b.who && sameValues(a.vals, b.vals) })
}

// of is the table of that type, and those widths, in which these are the rows.
func of(l []api.Id, widths []int, lines ...line) api.Table {
	t := api.Table{Type: slices.Clone(l)}
	for _, width := range widths {
		t.Columns = append(t.Columns, api.Column{Width: width, Rows: len(lines)})
	}
	for _, one := range lines {
		t.Entities = append(t.Entities, one.who)
		for at, v := range one.vals {
			t.Columns[at].Words = append(t.Columns[at].Words, v...)
		}
	}
	return t
}

// counted are values of those widths, no two words of which are the same, from a word on.
func counted(widths []int, from uint64) []api.Value {
	all := make([]api.Value, len(widths))
	for at, width := range widths {
		for range width {
			all[at] = append(all[at], from)
			from++
		}
	}
	return all
}

// filled is a table of so many rows, of the indexes from 3 on, no two words of which are the same.
func filled(l []api.Id, widths []int, rows int) api.Table {
	var lines []line
	for row := range rows {
		lines = append(lines, line{entity(3+row, row%8), counted(widths, uint64(1000*row+100))})
	}
	return of(l, widths, lines...)
}

// bare is a table of no ids, with these entities.
func bare(l ...api.Id) api.Table { return api.Table{Entities: l} }

// great is a table of no ids, with so many entities, of all indexes, from the greatest down.
func great(rows int) api.Table {
	t := api.Table{Entities: make([]api.Id, rows)}
	for row := range rows {
		t.Entities[row] = entity(api.MaxIndex-row, row%8)
	}
	return t
}

// isType is what the chapter of types says, word by word.
func isType(l []api.Id) bool {
	for place, id := range l {
		r, t := int(id>>32&(1<<30-1)), indexOf(id)
		isComponent := id >= comp(1) && id <= comp(24)
		isPair := id == pair(r, t) && r >= 1 && r <= 1<<20+2 && t >= 1 && t <= 1<<20+2
		if !isComponent && !isPair || place > 0 && id <= l[place-1] {
			return false
		}
	}
	return len(l) <= 12
}

// isColumn is what the chapter of columns says of one of so many rows.
func isColumn(c api.Column, rows int) bool {
	return c.Width >= 0 && c.Width <= 4 && c.Rows == rows && len(c.Words) == c.Width*rows
}

// isTable is what the chapter says of one that may be, part by part.
func isTable(t api.Table) bool {
	if !isType(t.Type) || len(t.Columns) != len(t.Type) {
		return false
	}
	for _, c := range t.Columns {
		if !isColumn(c, len(t.Entities)) {
			return false
		}
	}
	indexes := make([]int, len(t.Entities))
	for row, who := range t.Entities {
		if !isEntity(who) {
			return false
		}
		indexes[row] = indexOf(who)
	}
	slices.Sort(indexes)
	return len(slices.Compact(indexes)) == len(t.Entities)
}

func widthsOf(t api.Table) []int {
	var l []int
	for _, c := range t.Columns {
		l = append(l, c.Width)
	}
	return l
}

// linesOf are the rows of a table that may be.
func linesOf(t api.Table) []line {
	all := make([]line, len(t.Entities))
	for row, who := range t.Entities {
		all[row].who = who
		for _, c := range t.Columns {
			all[row].vals = append(all[row].vals, c.Words[row*c.Width:(row+1)*c.Width])
		}
	}
	return all
}

// has tells whether a table that may be is of that one's type and widths, and has just these rows, in order.
func has(t, like api.Table, lines []line) bool {
	return isTable(t) && slices.Equal(t.Type, like.Type) && slices.Equal(widthsOf(t), widthsOf(like)) && sameLines(linesOf(t), lines)
}

// without are the rows, that one swapped out: the last one put in its place, and cut off.
func without(lines []line, row int) []line {
	l := slices.Clone(lines)
	l[row] = l[len(l)-1]
	return l[:len(l)-1]
}

// behind are the rows, and these behind them.
func behind(lines []line, more ...line) []line { return append(slices.Clone(lines), more...) }

func isZero(t api.Table) bool { return len(t.Type) == 0 && len(t.Columns) == 0 && len(t.Entities) == 0 }

func itoa(n int) string { return strconv.Itoa(n) }

// twelve is a type of as many ids as may be, and widths for it, each one that may be among them.
func twelve() ([]api.Id, []int) {
	l := ids(comp(1), comp(2), comp(5), comp(23), comp(24), pair(1, 1), pair(1, 2), pair(2, 1), pair(7, 7), pair(7, api.MaxIndex), pair(api.MaxIndex, 1), pair(api.MaxIndex, api.MaxIndex))
	return l, []int{0, 1, 2, 3, 4, 4, 3, 2, 1, 0, 0, 2}
}

// good are tables that may be, small ones.
func good() map[string]api.Table {
	all := map[string]api.Table{
		"the zero one":       {},
		"empty, not nil":     {Type: ids(), Columns: []api.Column{}, Entities: ids()},
		"of no ids, 1 row":   bare(entity(5, 2)),
		"of no ids, 3 rows":  bare(entity(9, 0), entity(1, 7), entity(8, 3)),
		"the edges":          bare(entity(api.MaxIndex, 7), entity(1, 0), entity(api.MaxIndex-1, 0), entity(2, 7)),
		"64 apart":           bare(entity(64, 0), entity(128, 0), entity(1, 0), entity(65, 0), entity(63, 1), entity(129, 1)),
		"the chapter's":      of(ids(comp(1), pair(3, 4)), []int{1, 0}, line{entity(5, 0), vals(val(7), nil)}, line{entity(6, 1), vals(val(8), nil)}),
		"words alike":        of(ids(comp(3)), []int{2}, line{entity(4, 0), vals(val(0, 0))}, line{entity(3, 0), vals(val(0, 0))}),
		"greatest words":     of(ids(pair(1, 3)), []int{1}, line{entity(4, 0), vals(val(top))}, line{entity(3, 0), vals(val(1 << 63))}),
		"mentions of itself": of(ids(pair(5, 6)), []int{0}, line{entity(5, 0), vals(nil)}, line{entity(6, 0), vals(nil)}),
	}
	l, widths := twelve()
	for _, rows := range []int{0, 1, 2, 3, 7} {
		for width := range api.MaxWidth + 1 {
			all["c7, "+itoa(width)+" wide, "+itoa(rows)+" rows"] = filled(ids(comp(7)), []int{width}, rows)
		}
		all["c1 c2, "+itoa(rows)+" rows"] = filled(ids(comp(1), comp(2)), []int{4, 1}, rows)
		all["c1 p1:2 p2:1, "+itoa(rows)+" rows"] = filled(ids(comp(1), pair(1, 2), pair(2, 1)), []int{0, 0, 3}, rows)
		all["12 ids, "+itoa(rows)+" rows"] = filled(l, widths, rows)
	}
	return all
}

// notEntities are ids of other kinds, and of none.
func notEntities() []api.Id {
	return ids(0, top, entity(0, 0), entity(0, 1), entity(3, 8), entity(3, 15), entity(api.MaxIndex+1, 0), entity(api.MaxIndex+65, 0), 3|1<<30, 3|1<<31, 3|1<<35, 3|1<<61, 1<<32,
		comp(1), comp(24), comp(25), comp(0), pair(1, 3), pair(0, 3), pair(3, 0), pair(0, 0), 3|3<<62)
}

// notTypes are lists of ids that are no types, each for one reason alone.
func notTypes() map[string][]api.Id {
	many, _ := twelve()
	return map[string][]api.Id{
		"an entity":          ids(entity(5, 0)),
		"a pattern":          ids(pair(1, 0)),
		"any and any":        ids(comp(1), pair(0, 0)),
		"none":               ids(0),
		"a component beyond": ids(comp(1), comp(25)),
		"a target beyond":    ids(comp(1), pair(1, api.MaxIndex+1)),
		"twice":              ids(comp(1), comp(1)),
		"out of order":       ids(comp(2), comp(1)),
		"pairs ahead":        ids(pair(1, 1), comp(1)),
		"13 ids":             slices.Insert(slices.Clone(many), 2, comp(4)),
		"a wrong last one":   ids(comp(1), comp(2), pair(1, 2), top),
	}
}

// bad are tables that may not be, each for one reason alone.
func bad() map[string]api.Table {
	like := filled(ids(comp(1), pair(2, 1)), []int{2, 1}, 3)
	with := func(change func(t *api.Table)) api.Table {
		t := clone(like)
		change(&t)
		return t
	}
	column := func(at int, c api.Column) api.Table {
		return with(func(t *api.Table) { t.Columns[at] = c })
	}
	words := func(n int) []uint64 { return make([]uint64, n) }
	all := map[string]api.Table{
		"a column fewer":             with(func(t *api.Table) { t.Columns = t.Columns[:1] }),
		"no columns":                 with(func(t *api.Table) { t.Columns = nil }),
		"a column more":              with(func(t *api.Table) { t.Columns = append(t.Columns, api.Column{Rows: 3}) }),
		"an id fewer":                with(func(t *api.Table) { t.Type = t.Type[:1] }),
		"no ids":                     with(func(t *api.Table) { t.Type = nil }),
		"an id more":                 with(func(t *api.Table) { t.Type = append(t.Type, pair(2, 2)) }),
		"columns in the room alone":  with(func(t *api.Table) { t.Columns = append(t.Columns, t.Columns[0])[:1] }),
		"a column of no ids":         {Columns: []api.Column{{}}},
		"an id, no column":           {Type: ids(comp(1))},
		"too wide":                   column(0, api.Column{Width: 5, Rows: 3, Words: words(15)}),
		"too wide, the last one":     column(1, api.Column{Width: 5, Rows: 3, Words: words(15)}),
		"a width below":              column(1, api.Column{Width: -1, Rows: 3}),
		"a word fewer":               column(0, api.Column{Width: 2, Rows: 3, Words: words(5)}),
		"a word more":                column(1, api.Column{Width: 1, Rows: 3, Words: words(4)}),
		"no words":                   column(1, api.Column{Width: 1, Rows: 3}),
		"a column's row fewer":       column(0, api.Column{Width: 2, Rows: 2, Words: words(4)}),
		"the last one's row fewer":   column(1, api.Column{Width: 1, Rows: 2, Words: words(2)}),
		"a column's row more":        column(0, api.Column{Width: 2, Rows: 4, Words: words(8)}),
		"the last one's row more":    column(1, api.Column{Width: 1, Rows: 4, Words: words(4)}),
		"a bare column's row more":   column(1, api.Column{Rows: 4}),
		"a bare column's row fewer":  column(1, api.Column{Rows: 2}),
		"a bare column's rows below": column(1, api.Column{Rows: -3}),
		"a column without rows":      column(1, api.Column{Width: 1}),
		"an entity fewer":            with(func(t *api.Table) { t.Entities = t.Entities[:2] }),
		"an entity more":             with(func(t *api.Table) { t.Entities = append(t.Entities, entity(9, 0)) }),
		"no entities":                with(func(t *api.Table) { t.Entities = nil }),
		"rows without entities":      {Type: ids(comp(1)), Columns: []api.Column{{Rows: 1}}},
		"one twice":                  with(func(t *api.Table) { t.Entities[2] = t.Entities[0] }),
		"one twice, bare":            bare(entity(5, 0), entity(5, 0)),
		"one index twice":            bare(entity(5, 0), entity(5, 1)),
		"one index at both ends":     bare(entity(5, 7), entity(6, 0), entity(70, 0), entity(5, 0)),
		"the greatest index twice":   bare(entity(api.MaxIndex, 0), entity(1, 0), entity(api.MaxIndex, 3)),
		"the index 64 twice":         bare(entity(64, 0), entity(128, 0), entity(64, 1)),
	}
	for name, l := range notTypes() {
		t := api.Table{Type: l, Columns: make([]api.Column, len(l))}
		all["no type: "+name] = t
	}
	for _, id := range notEntities() {
		for place := range 3 {
			all["no entity: "+strconv.FormatUint(uint64(id), 16)+" in "+itoa(place)] = with(func(t *api.Table) { t.Entities[place] = id })
		}
	}
	return all
}

// badGreat are such tables, too, of as many rows as may be, and of one more.
func badGreat() map[string]api.Table {
	twice := great(api.MaxIndex)
	twice.Entities[api.MaxIndex-1] = entity(2, 0)
	return map[string]api.Table{
		"as many as all, one twice": twice,
		"one more than all":         bare(append(great(api.MaxIndex).Entities, entity(1, 1))...),
	}
}

// clone is the table, with the room behind its ends, in other memory.
func clone(t api.Table) api.Table {
	many := len(t.Columns)
	t.Type = slices.Clone(t.Type[:cap(t.Type)])[:len(t.Type)]
	t.Entities = slices.Clone(t.Entities[:cap(t.Entities)])[:len(t.Entities)]
	t.Columns = slices.Clone(t.Columns[:cap(t.Columns)])
	for at, c := range t.Columns {
		t.Columns[at].Words = slices.Clone(c.Words[:cap(c.Words)])[:len(c.Words)]
	}
	t.Columns = t.Columns[:many]
	return t
}

// wrongRows are rows that a table has not.
func wrongRows(t api.Table) []int {
	many := len(t.Entities)
	return []int{-1, -2, -many - 1, math.MinInt, many, many + 1, many + 1<<32, 1 << 62, math.MaxInt}
}

// wrongValues are values that have not so many words.
func wrongValues(width int) []api.Value {
	var all []api.Value
	for n := range api.MaxWidth + 3 {
		if n != width {
			all = append(all, make(api.Value, n), make(api.Value, n, n+9))
		}
	}
	return append(all, make(api.Value, 300))
}
