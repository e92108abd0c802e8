package alloc

import (
	"iter"

	"windrose/api"
	"windrose/ident"
)

// isMost tells whether an allocator may have this Most.
func isMost(most int) bool {
	return most >= 1 && most <= api.MaxMost
}

// mayBe tells whether an allocator may be. That at most Most are alive beside the first two follows of how many Slots there are.
func mayBe(a api.Alloc) bool {
	if !isMost(a.Most) || len(a.Slots) < firstTwo || len(a.Slots) > a.Most+firstTwo {
		return false
	}
	reusable := 0
	slotsMayBe := every(a.Slots, func(place int, s api.Slot) bool {
		if usable(s) {
			reusable++
		}
		return s.Gen >= 0 && s.Gen <= api.MaxGen && (place >= firstTwo || s == fresh)
	})
	return slotsMayBe && len(a.Free) == reusable && freeOnce(a)
}

// freeOnce tells whether Free has only indexes that can be used again, none of them twice. If it has as many as there are, it has each.
func freeOnce(a api.Alloc) bool {
	met := make([]bool, len(a.Slots))
	return every(a.Free, func(_ int, index int) bool {
		if !hasSlot(a, index) || !usable(a.Slots[index-1]) || met[index-1] {
			return false
		}
		met[index-1] = true
		return true
	})
}

// every tells whether something holds of each item of a list, at its place; it asks no further once it does not.
func every[T any](l []T, holds func(place int, item T) bool) bool {
	for place, item := range l {
		if !holds(place, item) {
			return false
		}
	}
	return true
}

// usable tells whether an index of such a slot can be used again.
func usable(s api.Slot) bool {
	return !s.Alive && s.Gen < api.MaxGen
}

func hasSlot(a api.Alloc, index int) bool {
	return index >= 1 && index <= len(a.Slots)
}

// lives tells whether the id is an entity that is alive, of an allocator that may be.
func lives(a api.Alloc, id api.Id) bool {
	if ident.Kind(id) != api.IdEntity {
		return false
	}
	index, gen := ident.Parts(id)
	return hasSlot(a, index) && a.Slots[index-1] == api.Slot{Gen: gen, Alive: true}
}

// living tells those that are alive, by their indexes.
func living(a api.Alloc) iter.Seq[api.Id] {
	return func(yield func(api.Id) bool) {
		for place, s := range a.Slots {
			if s.Alive && !yield(entity(place+1, s)) {
				return
			}
		}
	}
}

// count is how many are alive, the first two among them.
func count(a api.Alloc) int {
	n := 0
	for range living(a) {
		n++
	}
	return n
}

// entity is who is told of an index and its slot. That can't go wrong: an allocator that may be has no index and no generation beyond those of ids.
func entity(index int, s api.Slot) api.Id {
	id, _ := ident.Entity(index, s.Gen)
	return id
}

// again takes the last index of Free, by one generation more.
func again(a api.Alloc) (api.Alloc, api.Id) {
	next := api.Alloc{Most: a.Most, Slots: own(a.Slots), Free: own(a.Free)}
	last := len(next.Free) - 1
	index := next.Free[last]
	next.Free = next.Free[:last:last]
	slot := api.Slot{Gen: next.Slots[index-1].Gen + 1, Alive: true}
	next.Slots[index-1] = slot
	return next, entity(index, slot)
}

// further takes an index that was never used.
func further(a api.Alloc) (api.Alloc, api.Id) {
	next := api.Alloc{Most: a.Most, Slots: own(a.Slots, fresh), Free: own(a.Free)}
	return next, entity(len(next.Slots), fresh)
}

// own is a list, and what comes behind it, in memory of its own.
func own[T any](l []T, more ...T) []T {
	c := make([]T, len(l)+len(more))
	copy(c[copy(c, l):], more)
	return c
}
