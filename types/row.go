package types

import (
	"iter"
	"slices"

	"windrose/api"
	"windrose/ident"
)

// mayBe tells whether l may be a type.
func mayBe(l []api.Id) bool {
	good := 0
checking:
	for place, id := range l {
		switch {
		case place == api.MaxType, !canBeHad(id), place > 0 && id <= l[place-1]:
			break checking
		}
		good++
	}
	return good == len(l)
}

// canBeHad tells whether the id is a component or a pair.
func canBeHad(id api.Id) bool {
	kind := ident.Kind(id)
	return kind == api.IdComponent || kind == api.IdPair
}

func isPair(id api.Id) bool {
	return ident.Kind(id) == api.IdPair
}

// has tells whether a type that may be has the id.
func has(l []api.Id, id api.Id) bool {
	_, there := slices.BinarySearch(l, id)
	return there
}

// put is a type into which ids are put at a place.
func put(l []api.Id, at int, ids ...api.Id) []api.Id {
	return join(l[:at:at], ids, l[at:len(l):len(l)])
}

// drop is a type without the id at a place.
func drop(l []api.Id, at int) []api.Id {
	return join(l[:at:at], l[at+1:len(l):len(l)])
}

// join is rows, one behind the other, in memory of its own.
func join(rows ...[]api.Id) []api.Id {
	long := 0
	for _, r := range rows {
		long += len(r)
	}
	all, end := make([]api.Id, long), 0
	for _, r := range rows {
		end += copy(all[end:], r)
	}
	return all
}

// told tells the ids of a type of which something holds, in order; none of what may not be.
func told(l []api.Id, holds func(api.Id) bool) iter.Seq[api.Id] {
	return func(yield func(api.Id) bool) {
		if !mayBe(l) {
			return
		}
		for _, id := range l {
			if holds(id) && !yield(id) {
				return
			}
		}
	}
}

// row is what is made of each id that is told: a row of ids, or of indexes.
func row[T any](ids iter.Seq[api.Id], of func(api.Id) T) []T {
	var l []T
	for id := range ids {
		l = append(l, of(id))
	}
	return l
}

// itself makes a row of the ids that are told.
func itself(id api.Id) api.Id {
	return id
}

// second makes a row of their second parts.
func second(id api.Id) int {
	_, part := ident.Parts(id)
	return part
}
