package lookup

import (
	"iter"
	"math/bits"
	"slices"

	"windrose/api"
	"windrose/hash"
	"windrose/types"
)

const (
	fewestSlots = 8
	states      = api.SlLeft + 1
	nowhere     = -1
)

// turns tells the slots among so many in the order of a hash's turns, each once.
func turns(h uint64, many int) iter.Seq[int] {
	return func(yield func(int) bool) {
		for turn := range many {
			at, err := hash.Probe(h, many, turn)
			if err != api.OK || !yield(at) {
				return
			}
		}
	}
}

// seek tells where the type stands, or else where it is to be put: the first slot of its turns that is not used, up to a free one.
func seek(slots []api.Entry, t []api.Id) (at int, there bool) {
	at = nowhere
search:
	for now := range turns(hash.Of(t...), len(slots)) {
		switch slots[now].State {
		case api.SlUsed:
			if types.Compare(slots[now].Type, t) == 0 {
				at, there = now, true
				break search
			}
		case api.SlLeft:
			// The type may still stand further on: it came when this slot was used.
			if at == nowhere {
				at = now
			}
		default:
			if at == nowhere {
				at = now
			}
			break search
		}
	}
	return at, there
}

// mayBe tells whether these may be a lookup's slots.
func mayBe(slots []api.Entry) bool {
	if len(slots) < fewestSlots || bits.OnesCount(uint(len(slots))) != 1 {
		return false
	}
	// States are counted by their numbers, and types looked for by them: each slot is asked first.
	for _, e := range slots {
		if !entryMayBe(e) {
			return false
		}
	}
	return hasRoom(len(slots), notFree(count(slots))) && wellLaid(slots)
}

// entryMayBe tells whether it may be a slot, wherever it stands.
func entryMayBe(e api.Entry) bool {
	switch e.State {
	case api.SlUsed:
		return e.Number >= 0 && types.Check(e.Type) == api.OK
	case api.SlFree, api.SlLeft:
		return e.Number == 0 && len(e.Type) == 0
	}
	return false
}

// wellLaid tells whether each type is found, and where it stands: of one that is there twice, the second one is not.
func wellLaid(slots []api.Entry) bool {
	for place, e := range slots {
		if e.State != api.SlUsed {
			continue
		}
		if at, there := seek(slots, e.Type); !there || at != place {
			return false
		}
	}
	return true
}

// count tells how many slots are of each state.
func count(slots []api.Entry) [states]int {
	var many [states]int
	for place := range len(slots) {
		many[slots[place].State]++
	}
	return many
}

func notFree(many [states]int) int {
	return many[api.SlUsed] + many[api.SlLeft]
}

// hasRoom tells whether so many of the slots may be not free.
func hasRoom(slots, taken int) bool {
	return taken <= api.MaxLookup && taken <= slots/4*3
}

// enough is how many slots there are to be, no fewer than there are, that so many may be used.
func enough(slots, used int) int {
	for !hasRoom(slots, used) {
		slots *= 2
	}
	return slots
}

// used tells the used entries, each in memory of its own.
func used(slots []api.Entry) iter.Seq[api.Entry] {
	return func(yield func(api.Entry) bool) {
		for _, e := range slots {
			if e.State == api.SlUsed && !yield(own(e)) {
				return
			}
		}
	}
}

// inOrder is a row of what is told, put in order by what is asked of each.
func inOrder[T, K any](told iter.Seq[T], key func(T) K, compare func(a, b K) int) []T {
	return slices.SortedFunc(told, func(a, b T) int { return compare(key(a), key(b)) })
}

func typeOf(e api.Entry) []api.Id {
	return e.Type
}

// own is the entry in memory of its own.
func own(e api.Entry) api.Entry {
	e.Type = append([]api.Id(nil), e.Type...)
	return e
}

// replaced is a copy of the slots in which an entry stands at that place.
func replaced(slots []api.Entry, at int, entry api.Entry) []api.Entry {
	next := make([]api.Entry, len(slots))
	copy(next, slots)
	next[at] = entry
	for place, e := range next {
		next[place] = own(e)
	}
	return next
}

// laidAnew is so many slots in which the types stand that stood in others, and one more; no slot is left.
func laidAnew(slots []api.Entry, many int, more api.Entry) []api.Entry {
	next := make([]api.Entry, many)
	lay := func(e api.Entry) {
		at, _ := seek(next, e.Type)
		next[at] = e
	}
	for e := range used(slots) {
		lay(e)
	}
	lay(own(more))
	return next
}
