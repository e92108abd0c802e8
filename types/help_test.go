package types_test

import (
	"math"
	"slices"
	"strconv"

	"windrose/api"
)

// Bits of ids, as the chapter of ids has them.
func entity(index, gen int) api.Id { return api.Id(gen)<<32 | api.Id(index) }
func comp(n int) api.Id            { return 1<<62 | api.Id(n) }
func pair(r, t int) api.Id         { return 1<<63 | api.Id(r)<<32 | api.Id(t) }

func row(l ...api.Id) []api.Id { return l }

// parts are a pair's relation and target, by its bits.
func parts(id api.Id) (int, int) { return int(id >> 32 & (1<<30 - 1)), int(id & (1<<30 - 1)) }

func isComponent(id api.Id) bool { return id >= comp(1) && id <= comp(api.MaxComponent) }

func isPair(id api.Id) bool {
	r, t := parts(id)
	return id == pair(r, t) && r >= 1 && r <= api.MaxIndex && t >= 1 && t <= api.MaxIndex
}

// things are components and pairs, rising, the edges among them.
func things() []api.Id {
	return row(
		comp(1), comp(2), comp(api.MaxComponent),
		pair(1, 1), pair(1, 2), pair(1, api.MaxIndex), pair(2, 1), pair(2, 2), pair(api.MaxIndex, 1), pair(api.MaxIndex, api.MaxIndex),
	)
}

// patterns are such; no type has one.
func patterns() []api.Id {
	return row(pair(0, 0), pair(0, 1), pair(0, 2), pair(0, 3), pair(0, api.MaxIndex), pair(1, 0), pair(2, 0), pair(3, 0), pair(api.MaxIndex, 0))
}

// others are entities, and ids of no kind.
func others() []api.Id {
	return row(
		entity(1, 0), entity(2, 0), entity(5, 2), entity(api.MaxIndex, api.MaxGen),
		0, math.MaxUint64, entity(0, 1), entity(1, api.MaxGen+1), entity(api.MaxIndex+1, 0),
		comp(0), comp(api.MaxComponent+1), comp(1)|1<<32, comp(1)|1<<30, comp(1)|1<<31,
		pair(1, api.MaxIndex+1), pair(api.MaxIndex+1, 1), pair(1, 1)|1<<30, pair(1, 1)|1<<31, pair(1, 1)|1<<62,
	)
}

// wrongIds are all those of these that no type has.
func wrongIds() []api.Id { return append(patterns(), others()...) }

// isType is what the chapter says of a type, word by word.
func isType(l []api.Id) bool {
	for i, id := range l {
		if !isComponent(id) && !isPair(id) {
			return false
		}
		for _, ahead := range l[:i] {
			if ahead >= id {
				return false
			}
		}
	}
	return len(l) <= 12
}

// comps are the components from one number to another.
func comps(from, to int) []api.Id {
	var l []api.Id
	for n := from; n <= to; n++ {
		l = append(l, comp(n))
	}
	return l
}

// pairs are the pairs of a relation, and of targets from one to another.
func pairs(relation, from, to int) []api.Id {
	var l []api.Id
	for n := from; n <= to; n++ {
		l = append(l, pair(relation, n))
	}
	return l
}

// rows are all rows of at most that many of the ids.
func rows(most int, ids ...api.Id) [][]api.Id {
	all := [][]api.Id{nil}
	for from := 0; most > 0; most-- {
		longest := all[from:]
		from = len(all)
		for _, l := range longest {
			for _, id := range ids {
				all = append(all, append(slices.Clone(l), id))
			}
		}
	}
	return all
}

// small are rows of which some may be types, and some may not.
func small() [][]api.Id {
	ids := append(things(), pair(0, 1), pair(1, 0), pair(0, 0), entity(1, 0), entity(5, 2), 0, comp(25), math.MaxUint64)
	return rows(3, ids...)
}

// good are types, of none, of one, of MaxType, and between.
func good() map[string][]api.Id {
	return map[string][]api.Id{
		"none":              nil,
		"none, not nil":     {},
		"one component":     row(comp(1)),
		"last component":    row(comp(24)),
		"one pair":          row(pair(1, 1)),
		"last pair":         row(pair(api.MaxIndex, api.MaxIndex)),
		"both":              row(comp(2), pair(2, 7), pair(3, 7)),
		"all edges":         things(),
		"most components":   comps(1, 12),
		"last components":   comps(13, 24),
		"most pairs":        pairs(7, 1, 12),
		"most of both":      append(comps(19, 24), pairs(2, 5, 10)...),
		"one less than all": comps(3, 13),
	}
}

// bad are rows that may not be types, each by one thing.
func bad() map[string][]api.Id {
	all := map[string][]api.Id{
		"one more, components":   comps(1, 13),
		"one more, pairs":        pairs(7, 1, 13),
		"one more, both":         append(comps(19, 24), pairs(2, 5, 11)...),
		"far more":               pairs(9, 1, 5000),
		"twice":                  row(comp(1), comp(1)),
		"pair twice":             row(comp(1), pair(2, 3), pair(2, 3)),
		"twice, apart":           row(comp(1), comp(2), comp(1)),
		"most, the last twice":   append(comps(1, 11), comp(11)),
		"falling":                row(comp(2), comp(1)),
		"falling pairs":          row(pair(2, 1), pair(1, 2)),
		"falling targets":        row(pair(2, 2), pair(2, 1)),
		"pair ahead":             row(pair(1, 1), comp(1)),
		"falling at the end":     row(comp(1), comp(3), comp(2)),
		"falling at the start":   row(comp(2), comp(1), comp(3)),
		"most, falling at last":  append(comps(2, 12), comp(1)),
		"most, an entity ahead":  append(row(entity(1, 0)), comps(1, 11)...),
		"most, a wrong one last": append(comps(1, 11), math.MaxUint64),
	}
	for _, id := range wrongIds() {
		l := row(comp(2), pair(2, 2), id)
		slices.Sort(l)
		name := strconv.FormatUint(uint64(id), 16)
		all["alone "+name] = row(id)
		all["among others "+name] = l
	}
	return all
}
