package record_test

import (
	"math"
	"slices"
	"testing"

	"windrose/api"
	"windrose/record"
)

func at(table, row int) api.Spot          { return api.Spot{Table: table, Row: row} }
func of(l ...api.Spot) api.Records        { return api.Records{Spots: l} }
func clone(r api.Records) api.Records     { return of(slices.Clone(r.Spots)...) }
func isZero(r api.Records) bool           { return len(r.Spots) == 0 }
func same(a, b api.Records) bool          { return slices.Equal(a.Spots, b.Spots) }
func nobodyUpTo(many int) []api.Spot      { return make([]api.Spot, many) }
func behind(r api.Records) []api.Spot     { return r.Spots[:cap(r.Spots)] }
func isNowhere(s api.Spot) bool           { return s.Table == 0 && s.Row == 0 }
func isIndex(index int) bool              { return index >= 1 && index <= 1<<20+2 }
func spots(l ...api.Spot) []api.Spot      { return l }
func numbers(l ...int) []int              { return l }
func standsIn(s api.Spot, table int) bool { return s.Table == table && table != 0 }

// isSpot is what the chapter says of one, word by word.
func isSpot(s api.Spot) bool {
	return s.Table >= 0 && s.Table <= 1<<20 && s.Row >= 0 && s.Row <= 1<<20+2 && (s.Table != 0 || s.Row == 0)
}

// isRecords is what the chapter says of those that may be, word by word.
func isRecords(r api.Records) bool {
	var taken []api.Spot
	for _, s := range r.Spots {
		if !isSpot(s) {
			return false
		}
		if !isNowhere(s) {
			taken = append(taken, s)
		}
	}
	slices.SortFunc(taken, func(a, b api.Spot) int {
		if a.Table != b.Table {
			return a.Table - b.Table
		}
		return a.Row - b.Row
	})
	many := len(r.Spots)
	return len(slices.Compact(slices.Clone(taken))) == len(taken) && many <= 1<<20+2 && (many == 0 || !isNowhere(r.Spots[many-1]))
}

// places is who stands where, told otherwise: by indexes, without those that stand nowhere.
type places map[int]api.Spot

func placesOf(r api.Records) places {
	p := places{}
	for at, s := range r.Spots {
		if !isNowhere(s) {
			p[at+1] = s
		}
	}
	return p
}

func (p places) records() api.Records {
	var r api.Records
	for index, s := range p {
		for len(r.Spots) < index {
			r.Spots = append(r.Spots, api.Spot{})
		}
		r.Spots[index-1] = s
	}
	return r
}

// who is the index at a spot, 0 if it is free.
func (p places) who(wanted api.Spot) int {
	for index, s := range p {
		if s == wanted {
			return index
		}
	}
	return 0
}

// wantPut is what the chapter says of Put, of records that may be.
func wantPut(r api.Records, index int, s api.Spot) (api.Records, api.Errno) {
	p := placesOf(r)
	if !isIndex(index) || isNowhere(s) || !isSpot(s) {
		return api.Records{}, api.ErrArg
	}
	if other := p.who(s); other != 0 && other != index {
		return api.Records{}, api.ErrThere
	}
	p[index] = s
	return p.records(), api.OK
}

// wantDrop is what the chapter says of Drop, of records that may be.
func wantDrop(r api.Records, index int) (api.Records, api.Errno) {
	p := placesOf(r)
	if _, ok := p[index]; !ok {
		return api.Records{}, api.ErrNone
	}
	delete(p, index)
	return p.records(), api.OK
}

// wantSwap is what the chapter says of Swap, of records that may be.
func wantSwap(r api.Records, index, last int) (api.Records, api.Errno) {
	p := placesOf(r)
	s, ok := p[index]
	if !ok {
		return api.Records{}, api.ErrNone
	}
	if s.Row > last {
		return api.Records{}, api.ErrArg
	}
	for _, other := range p {
		if other.Table == s.Table && other.Row > last {
			return api.Records{}, api.ErrArg
		}
	}
	moved := p.who(at(s.Table, last))
	if moved == 0 {
		return api.Records{}, api.ErrArg
	}
	delete(p, index)
	if moved != index {
		p[moved] = s
	}
	return p.records(), api.OK
}

// wantRows is what the chapter says of Rows, of records that may be: each row is asked who stands there, the least that is left first.
func wantRows(r api.Records, table int) []int {
	left := placesOf(r)
	var l []int
	for {
		next := 0
		for index, s := range left {
			if standsIn(s, table) && (next == 0 || s.Row < left[next].Row) {
				next = index
			}
		}
		if next == 0 {
			return l
		}
		l = append(l, next)
		delete(left, next)
	}
}

// must are the records that come, if they may be.
func must(t *testing.T, r api.Records, e api.Errno) api.Records {
	t.Helper()
	if e != api.OK || record.Check(r) != api.OK || !isRecords(r) {
		t.Fatal(r, e)
	}
	return r
}

// good are records that may be, small ones.
func good() map[string]api.Records {
	return map[string]api.Records{
		"nobody":                   {},
		"nobody, not nil":          of(spots()...),
		"the chapter's":            of(at(0, 0), at(0, 0), at(1, 0), at(1, 1), at(0, 0), at(2, 0)),
		"the first index":          of(at(1, 0)),
		"the last table":           of(at(1<<20, 0)),
		"the last row":             of(at(1, 1<<20+2)),
		"the last of both":         of(at(1<<20, 1<<20+2)),
		"the last ones among":      of(at(1<<20, 0), at(1, 0), at(1, 1<<20+2), at(1<<20, 1<<20+2), at(1, 1)),
		"nowhere ahead":            of(append(nobodyUpTo(4), at(3, 0))...),
		"nowhere among":            of(at(2, 0), at(0, 0), at(0, 0), at(2, 1), at(0, 0), at(1, 0)),
		"rows falling":             of(at(1, 4), at(1, 3), at(1, 2), at(1, 1), at(1, 0)),
		"rows mixed":               of(at(1, 2), at(2, 0), at(1, 0), at(0, 0), at(2, 1), at(1, 3), at(1, 1)),
		"rows left out":            of(at(1, 5), at(1, 2), at(2, 9)),
		"one row of many tables":   of(at(1, 7), at(2, 7), at(3, 7), at(1<<20, 7)),
		"table and row turned":     of(at(2, 1), at(1, 2), at(2, 2), at(1, 1)),
		"with room behind":         of(append(make([]api.Spot, 0, 9), at(1, 0), at(1, 1))...),
		"a great table, great row": of(at(1, 0), at(1<<20-1, 1<<20+1), at(1<<20, 1<<20+2)),
	}
}

// full are records of all indexes, in one table, the rows falling.
func full() api.Records {
	r := of(nobodyUpTo(api.MaxIndex)...)
	for place := range r.Spots {
		r.Spots[place] = at(5, api.MaxIndex-1-place)
	}
	return r
}

// wide are records of one index in each table.
func wide() api.Records {
	r := of(nobodyUpTo(api.MaxTable)...)
	for place := range r.Spots {
		r.Spots[place] = at(place+1, 0)
	}
	return r
}

// lone are records of the greatest index alone.
func lone() api.Records { return of(append(nobodyUpTo(api.MaxIndex-1), at(2, 3))...) }

// great are records of many spots.
func great() map[string]api.Records {
	return map[string]api.Records{"all indexes": full(), "all tables": wide(), "the greatest index alone": lone()}
}

// notSpots are no spots, each for one reason alone.
func notSpots() []api.Spot {
	return spots(
		at(-1, 0), at(-1, 7), at(math.MinInt, 0), at(1<<20+1, 0), at(1<<32+1, 0), at(math.MaxInt, 0),
		at(1, -1), at(1, math.MinInt), at(1<<20, -1), at(1, 1<<20+3), at(1<<20, 1<<20+3), at(1, 1<<32), at(1, math.MaxInt),
		at(0, 1), at(0, 2), at(0, 1<<20+2),
	)
}

// bad are records that may not be, each for one reason alone.
func bad() map[string]api.Records {
	all := map[string]api.Records{
		"nowhere alone":         of(at(0, 0)),
		"nowhere alone, twice":  of(nobodyUpTo(2)...),
		"the last one nowhere":  of(at(1, 0), at(1, 1), at(0, 0)),
		"the last two nowhere":  of(at(1, 0), at(1, 1), at(0, 0), at(0, 0)),
		"two at one spot":       of(at(1, 0), at(1, 0)),
		"two, far apart":        of(at(3, 4), at(1, 0), at(0, 0), at(1, 1), at(0, 0), at(3, 4)),
		"two at the last spot":  of(at(1, 0), at(1<<20, 1<<20+2), at(1<<20, 1<<20+2)),
		"three at one spot":     of(at(2, 1), at(2, 1), at(2, 1)),
		"twice two at one spot": of(at(2, 1), at(1, 1), at(2, 1), at(1, 1)),
		"two ahead of others":   of(at(2, 1), at(2, 1), at(2, 2), at(2, 3)),
		"two behind nobody":     of(at(0, 0), at(0, 0), at(2, 1), at(0, 0), at(2, 1)),
		"two, the rows mixed":   of(at(1, 3), at(2, 0), at(2, 1), at(1, 3)),
	}
	for n, s := range notSpots() {
		name := " no spot, " + string(rune('a'+n))
		all["alone"+name] = of(s)
		all["first"+name] = of(s, at(1, 0), at(1, 1))
		all["among"+name] = of(at(1, 0), s, at(1, 1))
		all["last"+name] = of(at(1, 0), at(1, 1), s)
	}
	return all
}

// badGreat are records of many spots that may not be, each for one reason alone.
func badGreat() map[string]api.Records {
	twice, wrong := full(), full()
	twice.Spots[0] = twice.Spots[api.MaxIndex-1]
	wrong.Spots[api.MaxIndex/2].Table = api.MaxTable + 1
	return map[string]api.Records{
		"one more than all":     of(append(full().Spots, at(6, 0))...),
		"the one behind, alone": of(append(nobodyUpTo(api.MaxIndex), at(6, 0))...),
		"two of all at a spot":  twice,
		"a wrong one of all":    wrong,
		"the greatest nowhere":  of(append(full().Spots[:api.MaxIndex-1], at(0, 0))...),
	}
}

// wrongIndexes are no indexes.
func wrongIndexes() []int {
	return numbers(0, -1, -1<<20, math.MinInt, 1<<20+3, 1<<32, 1<<32+1, math.MaxInt)
}

// tablesOf are the tables in which somebody stands, and some more, such that can't be among them.
func tablesOf(r api.Records) []int {
	l := numbers(0, -1, math.MinInt, 1, 2, 3, 9, 1<<20, 1<<20+1, 1<<32+1, math.MaxInt)
	for _, s := range r.Spots {
		l = append(l, s.Table)
	}
	return l
}

// freeOf are spots at which nobody stands.
func freeOf(r api.Records) []api.Spot {
	all := spots(at(1, 0), at(1, 1), at(1, 2), at(1, 3), at(1, 8), at(2, 0), at(2, 1), at(2, 5), at(3, 0), at(1<<20, 0), at(1, 1<<20+2), at(1<<20, 1<<20+2))
	return slices.DeleteFunc(all, func(s api.Spot) bool { return slices.Contains(r.Spots, s) })
}

// takenOf are spots at which somebody stands.
func takenOf(r api.Records) []api.Spot {
	return slices.DeleteFunc(slices.Clone(r.Spots), isNowhere)
}
