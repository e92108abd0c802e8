package column_test

import (
	"math"
	"math/rand"
	"slices"
	"strconv"

	"windrose/api"
)

const top = math.MaxUint64

func val(words ...uint64) api.Value { return words }

// of is the column of that width in which these are the rows.
func of(width int, rows ...api.Value) api.Column {
	c := api.Column{Width: width, Rows: len(rows)}
	for _, v := range rows {
		c.Words = append(c.Words, v...)
	}
	return c
}

// counted are so many values of that width, no two words of which are the same, from a word on.
func counted(width, many int, from uint64) []api.Value {
	all := make([]api.Value, many)
	for row := range all {
		for range width {
			all[row] = append(all[row], from)
			from++
		}
	}
	return all
}

// filled is a column of that width, and so many rows, no two words of which are the same.
func filled(width, rows int, from uint64) api.Column {
	return of(width, counted(width, rows, from)...)
}

// bare is a column of values of no words.
func bare(rows int) api.Column { return api.Column{Rows: rows} }

// long is a column of that width whose rows are many; each word is its place.
func long(width, rows int) api.Column {
	c := api.Column{Width: width, Rows: rows, Words: make([]uint64, width*rows)}
	for at := range c.Words {
		c.Words[at] = uint64(at)
	}
	return c
}

// isColumn is what the chapter says of one that may be, word by word.
func isColumn(c api.Column) bool {
	if c.Width < 0 || c.Width > 4 || c.Rows < 0 || c.Rows > 1<<20+2 {
		return false
	}
	words := 0
	for range c.Width {
		words += c.Rows
	}
	return len(c.Words) == words
}

// valuesOf are the values of a column's rows.
func valuesOf(c api.Column) []api.Value {
	if c.Width == 0 {
		return make([]api.Value, c.Rows)
	}
	all := make([]api.Value, 0, c.Rows)
	for words := range slices.Chunk(c.Words, c.Width) {
		all = append(all, words)
	}
	return all
}

func sameValues(a, b []api.Value) bool {
	return slices.EqualFunc(a, b, func(a, b api.Value) bool { return slices.Equal(a, b) })
}

// has tells whether a column that may be is of that width, and has just these rows, in order.
func has(c api.Column, width int, rows []api.Value) bool {
	return isColumn(c) && c.Width == width && sameValues(valuesOf(c), rows)
}

// without are the rows, that one swapped out: the last one put in its place, and cut off.
func without(rows []api.Value, row int) []api.Value {
	all := slices.Clone(rows)
	all[row] = all[len(all)-1]
	return all[:len(all)-1]
}

// behind are the rows, and these behind them.
func behind(rows []api.Value, l ...api.Value) []api.Value {
	return append(slices.Clone(rows), l...)
}

func isZero(c api.Column) bool { return c.Width == 0 && c.Rows == 0 && len(c.Words) == 0 }

// good are columns that may be, small ones: of each width, without rows, of one row, and of more.
func good() map[string]api.Column {
	all := map[string]api.Column{
		"the zero one":     {},
		"empty, not nil":   {Width: 2, Words: []uint64{}},
		"bare, not nil":    {Rows: 3, Words: []uint64{}},
		"noughts":          of(2, val(0, 0), val(0, 0)),
		"rows alike":       of(1, val(7), val(7), val(7)),
		"the greatest":     of(1, val(top), val(0), val(top-1), val(1<<63)),
		"the chapter's":    of(2, val(1, 2), val(3, 4), val(5, 6)),
		"with room behind": {Width: 2, Rows: 2, Words: append(make([]uint64, 0, 20), 1, 2, 3, 4)},
	}
	for width := range api.MaxWidth + 1 {
		for _, rows := range []int{0, 1, 2, 3, 7} {
			all[strconv.Itoa(width)+" wide, "+strconv.Itoa(rows)+" rows"] = filled(width, rows, 100)
		}
	}
	return all
}

// great are columns of MaxIndex rows, and of one less.
func great() map[string]api.Column {
	return map[string]api.Column{
		"bare":              bare(api.MaxIndex),
		"bare, one less":    bare(api.MaxIndex - 1),
		"1 wide":            long(1, api.MaxIndex),
		"1 wide, one less":  long(1, api.MaxIndex-1),
		"greatest":          long(api.MaxWidth, api.MaxIndex),
		"greatest, 1 less":  long(api.MaxWidth, api.MaxIndex-1),
		"bare, not nil":     {Rows: api.MaxIndex, Words: []uint64{}},
		"2 wide":            long(2, api.MaxIndex),
		"3 wide, 2 less":    long(3, api.MaxIndex-2),
		"bare, half of all": bare(api.MaxIndex / 2),
	}
}

// bad are columns that may not be, each for one reason alone.
func bad() map[string]api.Column {
	words := func(n int) []uint64 { return make([]uint64, n) }
	return map[string]api.Column{
		"a width below":               {Width: -1},
		"a width far below":           {Width: math.MinInt},
		"a width below, one row":      {Width: -1, Rows: 1},
		"a width above":               {Width: api.MaxWidth + 1},
		"a width above, its words":    {Width: api.MaxWidth + 1, Rows: 2, Words: words(10)},
		"a width far above":           {Width: math.MaxInt},
		"a width that wraps round":    {Width: 1 << 62, Rows: 4},
		"a width that wraps to words": {Width: 1<<62 + 1, Rows: 4, Words: words(4)},
		"a width of 32 bits more":     {Width: 1<<32 + 1},
		"rows below":                  {Rows: -1},
		"rows below, 1 wide":          {Width: 1, Rows: -1},
		"rows far below":              {Rows: math.MinInt},
		"rows below that wrap round":  {Width: 4, Rows: math.MinInt},
		"rows above":                  {Rows: api.MaxIndex + 1},
		"rows above, their words":     {Width: 1, Rows: api.MaxIndex + 1, Words: words(api.MaxIndex + 1)},
		"rows far above":              {Rows: math.MaxInt},
		"rows above that wrap round":  {Width: 4, Rows: 1 << 62},
		"rows that wrap to words":     {Width: 4, Rows: 1<<62 + 1, Words: words(4)},
		"both below":                  {Width: -1, Rows: -2, Words: words(2)},
		"words of no width":           {Rows: 3, Words: words(1)},
		"words of no rows":            {Width: 2, Words: words(2)},
		"a word of no rows":           {Width: 1, Words: words(1)},
		"one word of nothing":         {Words: words(1)},
		"one word fewer":              {Width: 2, Rows: 3, Words: words(5)},
		"one word more":               {Width: 2, Rows: 3, Words: words(7)},
		"one row fewer":               {Width: 2, Rows: 3, Words: words(4)},
		"one row more":                {Width: 2, Rows: 3, Words: words(8)},
		"no words":                    {Width: 1, Rows: 1},
		"words in the room alone":     {Width: 1, Rows: 2, Words: make([]uint64, 1, 2)},
		"the most, one word fewer":    {Width: 1, Rows: api.MaxIndex, Words: words(api.MaxIndex - 1)},
		"the most, one word more":     {Width: 1, Rows: api.MaxIndex, Words: words(api.MaxIndex + 1)},
	}
}

// wrongRows are rows that a column has not.
func wrongRows(c api.Column) []int {
	return []int{-1, -2, -c.Rows - 1, math.MinInt, c.Rows, c.Rows + 1, c.Rows + 1<<32, 1 << 62, math.MaxInt}
}

// wrongValues are values that have not so many words.
func wrongValues(width int) []api.Value {
	var all []api.Value
	for n := range api.MaxWidth + 3 {
		if n != width {
			all = append(all, make(api.Value, n), make(api.Value, n, n+9))
		}
	}
	return append(all, make(api.Value, 300))
}

func source(seed int64) *rand.Rand { return rand.New(rand.NewSource(seed)) }
