package alloc_test

import (
	"math"
	"slices"
	"testing"

	"windrose/alloc"
	"windrose/api"
)

// entity is an entity's bits, as the chapter of ids has them.
func entity(index, gen int) api.Id { return api.Id(gen)<<32 | api.Id(index) }

func live(gen int) api.Slot { return api.Slot{Gen: gen, Alive: true} }
func dead(gen int) api.Slot { return api.Slot{Gen: gen} }

// made is an allocator of the first two, and what comes behind them.
func made(most int, free []int, slots ...api.Slot) api.Alloc {
	return api.Alloc{Most: most, Slots: append([]api.Slot{live(0), live(0)}, slots...), Free: free}
}

// full is an allocator of that Most in which all indexes are alive, of the generation 0.
func full(most int) api.Alloc {
	return made(most, nil, slices.Repeat([]api.Slot{live(0)}, most)...)
}

// good are allocators that may be, the edges among them.
func good() map[string]api.Alloc {
	return map[string]api.Alloc{
		"least":           made(1, nil),
		"greatest, new":   made(api.MaxMost, nil),
		"greatest, full":  full(api.MaxMost),
		"least, full":     made(1, nil, live(0)),
		"full, last":      made(1, nil, live(api.MaxGen)),
		"one free":        made(1, []int{3}, dead(0)),
		"last but one":    made(1, []int{3}, dead(api.MaxGen-1)),
		"worn":            made(1, nil, dead(api.MaxGen)),
		"worn, alive":     made(2, nil, dead(api.MaxGen), live(2)),
		"worn, free":      made(2, []int{4}, dead(api.MaxGen), dead(1)),
		"worn, room":      made(3, nil, dead(api.MaxGen), live(2)),
		"several rising":  made(9, []int{3, 4, 6}, dead(0), dead(3), live(1), dead(6)),
		"several falling": made(4, []int{6, 4, 3}, dead(0), dead(3), live(1), dead(6)),
		"several mixed":   made(5, []int{4, 6, 3}, dead(0), dead(3), live(7), dead(6), live(0)),
	}
}

// bad are allocators that may not be, each by one thing.
func bad() map[string]api.Alloc {
	return map[string]api.Alloc{
		"nothing":                {},
		"Most 0":                 made(0, nil),
		"Most below":             made(-1, nil),
		"Most least":             made(math.MinInt, nil),
		"Most above":             made(api.MaxMost+1, nil),
		"Most greatest":          made(math.MaxInt, nil),
		"no Slot":                {Most: 1},
		"one Slot":               {Most: 1, Slots: []api.Slot{live(0)}},
		"first dead":             {Most: 1, Slots: []api.Slot{dead(0), live(0)}},
		"first dead, free":       {Most: 1, Slots: []api.Slot{dead(0), live(0)}, Free: []int{1}},
		"second dead":            {Most: 1, Slots: []api.Slot{live(0), dead(0)}},
		"second dead, free":      {Most: 1, Slots: []api.Slot{live(0), dead(0)}, Free: []int{2}},
		"first worn":             {Most: 1, Slots: []api.Slot{dead(7), live(0)}},
		"first of generation 1":  {Most: 1, Slots: []api.Slot{live(1), live(0)}},
		"second of generation 1": {Most: 1, Slots: []api.Slot{live(0), live(1)}},
		"too many, alive":        made(1, nil, live(0), live(0)),
		"too many, worn":         made(1, nil, live(0), dead(7)),
		"too many, free":         made(1, []int{4}, live(0), dead(0)),
		"far too many":           made(api.MaxMost, nil, slices.Repeat([]api.Slot{live(0)}, api.MaxMost+1)...),
		"generation below":       made(1, nil, live(-1)),
		"generation above":       made(1, nil, live(api.MaxGen+1)),
		"dead below":             made(1, []int{3}, dead(-1)),
		"dead above":             made(1, nil, dead(api.MaxGen+1)),
		"dead above, free":       made(1, []int{3}, dead(api.MaxGen+1)),
		"free left out":          made(1, nil, dead(0)),
		"one of two left out":    made(2, []int{4}, dead(0), dead(0)),
		"free twice":             made(1, []int{3, 3}, dead(0)),
		"one twice for another":  made(2, []int{4, 4}, dead(0), dead(0)),
		"free alive":             made(1, []int{3}, live(0)),
		"alive for a dead one":   made(2, []int{4}, dead(0), live(0)),
		"free worn":              made(1, []int{3}, dead(7)),
		"worn for a dead one":    made(2, []int{4}, dead(0), dead(7)),
		"free first":             made(1, []int{1}),
		"first for a dead one":   made(1, []int{1}, dead(0)),
		"free 0":                 made(1, []int{0}),
		"0 for a dead one":       made(1, []int{0}, dead(0)),
		"free below":             made(1, []int{-1}, dead(0)),
		"free least":             made(1, []int{math.MinInt}, dead(0)),
		"free has no Slot":       made(1, []int{3}),
		"free beyond":            made(1, []int{4}, dead(0)),
		"free greatest":          made(1, []int{math.MaxInt}, dead(0)),
	}
}

// noEntities are ids that are no entity's: of no kind, and of other kinds, some of which have the two numbers of an entity that is alive in what is tested.
func noEntities() []api.Id {
	return []api.Id{
		0, math.MaxUint64, 7 << 32, 3 | 1<<30, 3 | 1<<31, entity(3, api.MaxGen+1), 3 | 1<<61, 3<<62 | 3, entity(api.MaxIndex+1, 0),
		1<<62 | 1, 1<<62 | 2, 1<<62 | 3, 1<<62 | 6, 1<<62 | 7,
		2<<62 | 1<<32, 2<<62 | 2<<32, 2<<62 | 6<<32, 2<<62 | 7<<32, 2<<62 | 3, 2 << 62,
		2<<62 | 3<<32 | 2, 2<<62 | 5<<32 | 7, 2<<62 | 3<<32 | 3,
	}
}

// isZero tells whether nothing stands in an allocator.
func isZero(a api.Alloc) bool { return a.Most == 0 && len(a.Slots) == 0 && len(a.Free) == 0 }

// same tells whether two allocators are, not asking the program.
func same(a, b api.Alloc) bool {
	return a.Most == b.Most && slices.Equal(a.Slots, b.Slots) && slices.Equal(a.Free, b.Free)
}

// taken takes one that is there.
func taken(t *testing.T, a api.Alloc) (api.Alloc, api.Id) {
	t.Helper()
	b, id, err := alloc.Take(a)
	if err != api.OK {
		t.Fatal("Take", err)
	}
	return b, id
}

// given gives some that are alive.
func given(t *testing.T, a api.Alloc, l ...api.Id) api.Alloc {
	t.Helper()
	b, err := alloc.Give(a, l...)
	if err != api.OK {
		t.Fatal("Give", l, err)
	}
	return b
}
