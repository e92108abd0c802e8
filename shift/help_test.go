package shift_test

import (
	"math"
	"slices"
	"strconv"
	"testing"

	"windrose/api"
)

const top = math.MaxUint64

// Bits of ids, as the chapter of ids has them.
func entity(index, gen int) api.Id { return api.Id(gen)<<32 | api.Id(index) }
func comp(n int) api.Id            { return 1<<62 | api.Id(n) }
func pair(r, t int) api.Id         { return 1<<63 | api.Id(r)<<32 | api.Id(t) }

func ids(l ...api.Id) []api.Id         { return l }
func val(words ...uint64) api.Value    { return words }
func vals(l ...api.Value) []api.Value  { return l }
func indexOf(id api.Id) int            { return int(id & (1<<30 - 1)) }
func itoa(n int) string                { return strconv.Itoa(n) }
func sameValues(a, b []api.Value) bool { return slices.EqualFunc(a, b, slices.Equal[api.Value]) }

// line is a row, kept by itself.
type line struct {
	who  api.Id
	vals []api.Value
}

func sameLines(a, b []line) bool {
	return slices.EqualFunc(a, b, func(a, b line) bool { return a.who == b.who && sameValues(a.vals, b.vals) })
}

// of is the table of that type, and those widths, in which these are the rows.
func of(l []api.Id, widths []int, lines ...line) api.Table {
	t := api.Table{Type: slices.Clone(l)}
	for _, width := range widths {
		t.Columns = append(t.Columns, api.Column{Width: width, Rows: len(lines)})
	}
	for _, one := range lines {
		t.Entities = append(t.Entities, one.who)
		for at, v := range one.vals {
			t.Columns[at].Words = append(t.Columns[at].Words, v...)
		}
	}
	return t
}

// counted are values of those widths, no two words of which are the same, from a word on.
func counted(widths []int, from uint64) []api.Value {
	all := make([]api.Value, len(widths))
	for at, width := range widths {
		for range width {
			all[at] = append(all[at], from)
			from++
		}
	}
	return all
}

// filled is a table of so many rows, of the indexes from one on, no two words of which are the same.
func filled(l []api.Id, widths []int, rows, index int) api.Table {
	var lines []line
	for row := range rows {
		at := index + row
		lines = append(lines, line{entity(at, at%8), counted(widths, uint64(1000*at+100))})
	}
	return of(l, widths, lines...)
}

// bare is a table of no ids, with these entities.
func bare(l ...api.Id) api.Table { return api.Table{Entities: l} }

// great is a table of no ids, with so many entities, of all indexes, from the greatest down.
func great(rows int) api.Table {
	t := api.Table{Entities: make([]api.Id, rows)}
	for row := range rows {
		t.Entities[row] = entity(api.MaxIndex-row, row%8)
	}
	return t
}

// isType is what the chapter of types says, word by word.
func isType(l []api.Id) bool {
	for place, id := range l {
		r, t := int(id>>32&(1<<30-1)), indexOf(id)
		isComponent := id >= comp(1) && id <= comp(24)
		isPair := id == pair(r, t) && r >= 1 && r <= 1<<20+2 && t >= 1 && t <= 1<<20+2
		if !isComponent && !isPair || place > 0 && id <= l[place-1] {
			return false
		}
	}
	return len(l) <= 12
}

func isEntity(id api.Id) bool {
	index, gen := indexOf(id), int(id>>32)
	return id == entity(index, gen) && index >= 1 && index <= 1<<20+2 && gen <= 7
}

// isTable is what the chapter of tables says of one that may be, part by part.
func isTable(t api.Table) bool {
	if !isType(t.Type) || len(t.Columns) != len(t.Type) {
		return false
	}
	for _, c := range t.Columns {
		if c.Width < 0 || c.Width > 4 || c.Rows != len(t.Entities) || len(c.Words) != c.Width*c.Rows {
			return false
		}
	}
	indexes := make([]int, len(t.Entities))
	for row, who := range t.Entities {
		if !isEntity(who) {
			return false
		}
		indexes[row] = indexOf(who)
	}
	slices.Sort(indexes)
	return len(slices.Compact(indexes)) == len(t.Entities)
}

func widthsOf(t api.Table) []int {
	var l []int
	for _, c := range t.Columns {
		l = append(l, c.Width)
	}
	return l
}

// linesOf are the rows of a table that may be.
func linesOf(t api.Table) []line {
	all := make([]line, len(t.Entities))
	for row, who := range t.Entities {
		all[row].who = who
		for _, c := range t.Columns {
			all[row].vals = append(all[row].vals, c.Words[row*c.Width:(row+1)*c.Width])
		}
	}
	return all
}

// same tells whether both are the same, part by part.
func same(a, b api.Table) bool {
	return slices.Equal(a.Type, b.Type) && slices.Equal(a.Entities, b.Entities) && slices.EqualFunc(a.Columns, b.Columns, func(a, b api.Column) bool {
		return a.Width == b.Width && a.Rows == b.Rows && slices.Equal(a.Words, b.Words)
	})
}

func sameMoved(a, b api.Moved) bool {
	return same(a.From, b.From) && same(a.To, b.To) && a.Row == b.Row && a.Who == b.Who
}

func isZero(t api.Table) bool { return len(t.Type) == 0 && len(t.Columns) == 0 && len(t.Entities) == 0 }

// valueOf is the value that a row has for an id; none, if its type has not the id.
func valueOf(t api.Table, l line, id api.Id) (api.Value, bool) {
	for at, one := range t.Type {
		if one == id {
			return l.vals[at], true
		}
	}
	return nil, false
}

// unlike tells whether an id that both types have is of unlike widths.
func unlike(from, to api.Table) bool {
	for at, id := range from.Type {
		for place, other := range to.Type {
			if id == other && from.Columns[at].Width != to.Columns[place].Width {
				return true
			}
		}
	}
	return false
}

// hasIndex tells whether an entity of that one's index has a row.
func hasIndex(t api.Table, who api.Id) bool {
	return slices.ContainsFunc(t.Entities, func(one api.Id) bool { return indexOf(one) == indexOf(who) })
}

// fault is the error that the words of P11.1 tell.
func fault(from, to api.Table, row int) api.Errno {
	switch {
	case !isTable(from) || !isTable(to):
		return api.ErrTable
	case row < 0 || row > len(from.Entities)-1:
		return api.ErrArg
	case unlike(from, to):
		return api.ErrWidth
	case hasIndex(to, from.Entities[row]):
		return api.ErrThere
	case len(to.Entities) == 1<<20+2:
		return api.ErrFull
	}
	return api.OK
}

// wanted is what the words say of moving a row, of tables as rows that are kept one by one.
func wanted(from, to api.Table, row int) (api.Moved, api.Errno) {
	if e := fault(from, to, row); e != api.OK {
		return api.Moved{}, e
	}
	lines, there := linesOf(from), linesOf(to)
	comes := line{who: lines[row].who}
	for at, id := range to.Type {
		v, has := valueOf(from, lines[row], id)
		if !has {
			v = make(api.Value, to.Columns[at].Width)
		}
		comes.vals = append(comes.vals, v)
	}
	last := lines[len(lines)-1]
	rest := slices.Clone(lines[:len(lines)-1])
	m := api.Moved{Row: len(there)}
	if row < len(rest) {
		rest[row], m.Who = last, last.who
	}
	m.From = of(from.Type, widthsOf(from), rest...)
	m.To = of(to.Type, widthsOf(to), append(there, comes)...)
	return m, api.OK
}

// wantedAlong is what the words say of moving rows, one by one.
func wantedAlong(from, to api.Table, l ...int) (api.Table, api.Table, api.Errno) {
	for _, row := range l {
		m, e := wanted(from, to, row)
		if e != api.OK {
			return api.Table{}, api.Table{}, e
		}
		from, to = m.From, m.To
	}
	return from, to, api.OK
}

// twelve is a type of as many ids as may be, and widths for it, each one that may be among them.
func twelve() ([]api.Id, []int) {
	l := ids(comp(1), comp(2), comp(5), comp(23), comp(24), pair(1, 1), pair(1, 2), pair(2, 1), pair(7, 7), pair(7, api.MaxIndex), pair(api.MaxIndex, 1), pair(api.MaxIndex, api.MaxIndex))
	return l, []int{0, 1, 2, 3, 4, 4, 3, 2, 1, 0, 0, 2}
}

// eleven is a type that has all but one, and none else.
func eleven(but int) ([]api.Id, []int) {
	l, widths := twelve()
	return slices.Delete(l, but, but+1), slices.Delete(widths, but, but+1)
}

// kind is a type, and widths for it.
type kind struct {
	l      []api.Id
	widths []int
}

// kinds are types of all sorts: some with all in common, some with something, some with nothing, some of unlike widths.
func kinds() map[string]kind {
	all, mixed := twelve()
	head, headWidths := eleven(0)
	tail, tailWidths := eleven(11)
	return map[string]kind{
		"no ids":           {nil, nil},
		"empty, not nil":   {ids(), []int{}},
		"c1":               {ids(comp(1)), []int{1}},
		"c2":               {ids(comp(2)), []int{1}},
		"c1 c2":            {ids(comp(1), comp(2)), []int{1, 1}},
		"c2 c3":            {ids(comp(2), comp(3)), []int{1, 2}},
		"c3, unlike":       {ids(comp(3)), []int{4}},
		"c1 c2 c3":         {ids(comp(1), comp(2), comp(3)), []int{1, 1, 2}},
		"c2 p1:2, bare":    {ids(comp(2), pair(1, 2)), []int{1, 0}},
		"c24 p1:2, bare":   {ids(comp(24), pair(1, 2)), []int{0, 0}},
		"c24, widest":      {ids(comp(24), pair(7, 7)), []int{4, 4}},
		"c2 p7:7, widest":  {ids(comp(2), pair(7, 7)), []int{1, 4}},
		"pairs turned":     {ids(pair(1, 2), pair(2, 1)), []int{0, 3}},
		"12 ids":           {all, mixed},
		"11, not the 1st":  {head, headWidths},
		"11, not the last": {tail, tailWidths},
		"6 of 12":          {all[3:9], mixed[3:9]},
	}
}

// pairOf is two tables of which a row may be asked, and what is said of them.
type pairOf struct {
	name     string
	from, to api.Table
}

// couples are tables of all these types, each with each, that have no index in common, but where it says so.
func couples() []pairOf {
	var all []pairOf
	for name, a := range kinds() {
		for other, b := range kinds() {
			for _, rows := range []int{0, 1, 2, 3, 5} {
				for _, there := range []int{0, 1, 4} {
					from, to := filled(a.l, a.widths, rows, 10), filled(b.l, b.widths, there, 100)
					text := name + ", " + itoa(rows) + " rows; " + other + ", " + itoa(there) + " rows"
					all = append(all, pairOf{text, from, to})
					if there > 1 {
						// The second row of the one has an index of the other.
						all = append(all, pairOf{text + ", one in common", from, filled(b.l, b.widths, there, 11-there/2)})
					}
				}
			}
		}
	}
	return all
}

// free are those couples of which each row can be moved.
func free() []pairOf {
	return slices.DeleteFunc(couples(), func(p pairOf) bool {
		return unlike(p.from, p.to) || slices.ContainsFunc(p.from.Entities, func(who api.Id) bool { return hasIndex(p.to, who) })
	})
}

// notEntities are ids of other kinds, and of none.
func notEntities() []api.Id {
	return ids(0, top, entity(0, 0), entity(0, 1), entity(3, 8), entity(api.MaxIndex+1, 0), 3|1<<30, 3|1<<31, 3|1<<35, 1<<32, comp(1), comp(25), comp(0), pair(1, 3), pair(0, 3), pair(3, 0), pair(0, 0), 3|3<<62)
}

// notTypes are lists of ids that are no types, each for one reason alone.
func notTypes() map[string][]api.Id {
	many, _ := twelve()
	return map[string][]api.Id{
		"an entity":          ids(entity(5, 0)),
		"a pattern":          ids(pair(1, 0)),
		"any and any":        ids(comp(1), pair(0, 0)),
		"none":               ids(0),
		"a component beyond": ids(comp(1), comp(25)),
		"a target beyond":    ids(comp(1), pair(1, api.MaxIndex+1)),
		"twice":              ids(comp(1), comp(1)),
		"out of order":       ids(comp(2), comp(1)),
		"pairs ahead":        ids(pair(1, 1), comp(1)),
		"13 ids":             slices.Insert(slices.Clone(many), 2, comp(4)),
		"a wrong last one":   ids(comp(1), comp(2), pair(1, 2), top),
	}
}

// bad are tables that may not be, each for one reason alone.
func bad() map[string]api.Table {
	like := filled(ids(comp(1), pair(2, 1)), []int{2, 1}, 3, 3)
	with := func(change func(t *api.Table)) api.Table {
		t := clone(like)
		change(&t)
		return t
	}
	column := func(at int, c api.Column) api.Table {
		return with(func(t *api.Table) { t.Columns[at] = c })
	}
	words := func(n int) []uint64 { return make([]uint64, n) }
	all := map[string]api.Table{
		"a column fewer":            with(func(t *api.Table) { t.Columns = t.Columns[:1] }),
		"no columns":                with(func(t *api.Table) { t.Columns = nil }),
		"a column more":             with(func(t *api.Table) { t.Columns = append(t.Columns, api.Column{Rows: 3}) }),
		"an id fewer":               with(func(t *api.Table) { t.Type = t.Type[:1] }),
		"no ids":                    with(func(t *api.Table) { t.Type = nil }),
		"an id more":                with(func(t *api.Table) { t.Type = append(t.Type, pair(2, 2)) }),
		"a column of no ids":        {Columns: []api.Column{{}}},
		"an id, no column":          {Type: ids(comp(1))},
		"too wide":                  column(0, api.Column{Width: 5, Rows: 3, Words: words(15)}),
		"a width below":             column(1, api.Column{Width: -1, Rows: 3}),
		"a word fewer":              column(0, api.Column{Width: 2, Rows: 3, Words: words(5)}),
		"a word more":               column(1, api.Column{Width: 1, Rows: 3, Words: words(4)}),
		"no words":                  column(1, api.Column{Width: 1, Rows: 3}),
		"a column's row fewer":      column(0, api.Column{Width: 2, Rows: 2, Words: words(4)}),
		"the last one's row more":   column(1, api.Column{Width: 1, Rows: 4, Words: words(4)}),
		"a bare column's row fewer": column(1, api.Column{Rows: 2}),
		"a bare column's rows few":  column(1, api.Column{Rows: -3}),
		"an entity fewer":           with(func(t *api.Table) { t.Entities = t.Entities[:2] }),
		"an entity more":            with(func(t *api.Table) { t.Entities = append(t.Entities, entity(9, 0)) }),
		"no entities":               with(func(t *api.Table) { t.Entities = nil }),
		"rows without entities":     {Type: ids(comp(1)), Columns: []api.Column{{Rows: 1}}},
		"one twice":                 with(func(t *api.Table) { t.Entities[2] = t.Entities[0] }),
		"one index twice":           bare(entity(5, 0), entity(5, 1)),
		"the greatest index twice":  bare(entity(api.MaxIndex, 0), entity(1, 0), entity(api.MaxIndex, 3)),
	}
	for name, l := range notTypes() {
		all["no type: "+name] = api.Table{Type: l, Columns: make([]api.Column, len(l))}
	}
	for _, id := range notEntities() {
		for place := range 3 {
			all["no entity: "+strconv.FormatUint(uint64(id), 16)+" in "+itoa(place)] = with(func(t *api.Table) { t.Entities[place] = id })
		}
	}
	return all
}

// clone is the table, with the room behind its ends, in other memory.
func clone(t api.Table) api.Table {
	many := len(t.Columns)
	t.Type = slices.Clone(t.Type[:cap(t.Type)])[:len(t.Type)]
	t.Entities = slices.Clone(t.Entities[:cap(t.Entities)])[:len(t.Entities)]
	t.Columns = slices.Clone(t.Columns[:cap(t.Columns)])
	for at, c := range t.Columns {
		t.Columns[at].Words = slices.Clone(c.Words[:cap(c.Words)])[:len(c.Words)]
	}
	t.Columns = t.Columns[:many]
	return t
}

// wrongRows are rows that a table has not.
func wrongRows(t api.Table) []int {
	many := len(t.Entities)
	return []int{-1, -2, -many - 1, math.MinInt, many, many + 1, many + 1<<32, 1 << 62, math.MaxInt}
}

// mayBe asks that a table of a test's own may be, or may not.
func mayBe(t *testing.T, name string, one api.Table, want bool) {
	t.Helper()
	if isTable(one) != want {
		t.Fatalf("%s: the test's own is wrong", name)
	}
}
