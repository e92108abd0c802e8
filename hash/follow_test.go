package hash_test

import (
	"testing"

	"windrose/api"
	"windrose/hash"
)

// P6.4: Back of Add, and Add of Back, are what they were.
func TestThereAndBack(t *testing.T) {
	for _, h := range hashes() {
		for _, id := range ids() {
			if got := hash.Back(hash.Add(h, id), id); got != h {
				t.Fatalf("Back of Add, %x %x: %x", h, id, got)
			}
			if got := hash.Add(hash.Back(h, id), id); got != h {
				t.Fatalf("Add of Back, %x %x: %x", h, id, got)
			}
		}
	}
}

// P6.4: two hashes to which the same id is added are unlike just if they were.
func TestUnlike(t *testing.T) {
	for _, id := range ids() {
		for _, a := range hashes() {
			for _, b := range hashes() {
				if (hash.Add(a, id) == hash.Add(b, id)) != (a == b) {
					t.Fatalf("%x: %x %x", id, a, b)
				}
			}
		}
	}
}

// P6.4: the hash of two rows, one behind the other, is that of the first one, to which the second one's ids are added; taken back from the end on, the first one's is left.
func TestRowsBehind(t *testing.T) {
	for _, first := range rows()[:12] {
		for _, second := range rows() {
			h := hash.Of(first...)
			for _, id := range second {
				h = hash.Add(h, id)
			}
			both := append(append([]api.Id{}, first...), second...)
			if got := hash.Of(both...); got != h {
				t.Fatalf("%d and %d ids: %x, not %x", len(first), len(second), got, h)
			}
			for i := range second {
				h = hash.Back(h, second[len(second)-1-i])
			}
			if want := hash.Of(first...); h != want {
				t.Fatalf("%d and %d ids, taken back: %x, not %x", len(first), len(second), h, want)
			}
		}
	}
}

// P6.4: so many turns as there are slots come to each slot once, whichever turn is first.
func TestEachSlotOnce(t *testing.T) {
	for _, h := range hashes() {
		for _, many := range []int{1, 2, 3, 4, 7, 64, 1000} {
			for _, from := range []int{0, 1, many, 5 * many / 2} {
				met := make([]int, many)
				for turn := range many {
					at, e := hash.Probe(h, many, from+turn)
					if e != api.OK || at < 0 || at >= many {
						t.Fatalf("Probe(%d, %d, %d): %d %d", h, many, from+turn, at, e)
					}
					met[at]++
				}
				for at, n := range met {
					if n != 1 {
						t.Fatalf("%d among %d, from the turn %d: the slot %d is met %d times", h, many, from, at, n)
					}
				}
			}
		}
	}
}

// P6.4 and P6.3: the first turn is the slot, and each next one is one further, the first one behind the last.
func TestTurnsGoOn(t *testing.T) {
	for _, h := range hashes() {
		for _, many := range []int{1, 2, 5, 1 << 40} {
			at, _ := hash.Slot(h, many)
			for turn := range 12 {
				got, e := hash.Probe(h, many, turn)
				if got != at || e != api.OK {
					t.Fatalf("Probe(%d, %d, %d): %d %d, not %d", h, many, turn, got, e, at)
				}
				if at++; at == many {
					at = 0
				}
			}
		}
	}
}
