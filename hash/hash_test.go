package hash_test

import (
	"math"
	"slices"
	"testing"

	"windrose/api"
	"windrose/hash"
)

// P6.1: to each hash each id is added as the words say.
func TestAdd(t *testing.T) {
	for _, h := range hashes() {
		for _, id := range ids() {
			if got, want := hash.Add(h, id), slowAdded(h, id); got != want {
				t.Fatalf("Add(%x, %x): %x, not %x", h, id, got, want)
			}
		}
	}
}

// P6.1: what can be reckoned by hand: of the hash 0 and the id 0 nothing comes, and of one byte in an id all eight are added.
func TestAddByHand(t *testing.T) {
	prime := uint64(api.HashPrime)
	power := func(n int) uint64 {
		out := uint64(1)
		for range n {
			out *= prime
		}
		return out
	}
	if got := hash.Add(0, 0); got != 0 {
		t.Errorf("Add(0, 0): %x", got)
	}
	if got, want := hash.Add(1, 0), power(8); got != want {
		t.Errorf("Add(1, 0): %x, not %x", got, want)
	}
	if got, want := hash.Add(0, 1), power(8); got != want {
		t.Errorf("Add(0, 1): %x, not %x", got, want)
	}
	if got, want := hash.Add(0, 1<<56), prime; got != want {
		t.Errorf("Add(0, 1<<56): %x, not %x", got, want)
	}
	if got := hash.Add(0xff, 0xff); got != 0 {
		t.Errorf("Add(ff, ff): %x: the bits are turned, not put", got)
	}
}

// P6.1: the hash of a row is the library's own of that kind.
func TestOf(t *testing.T) {
	for _, l := range rows() {
		if got, want := hash.Of(l...), libraryOf(l); got != want {
			t.Errorf("Of %d ids: %x, not %x", len(l), got, want)
		}
	}
}

// P6.1: of no ids it is where one begins; the order of ids counts.
func TestOfEdges(t *testing.T) {
	if got := hash.Of(); got != api.HashBasis {
		t.Errorf("Of(): %d", got)
	}
	if got := hash.Of([]api.Id{}...); got != api.HashBasis {
		t.Errorf("Of of an empty row: %d", got)
	}
	if hash.Of(1, 2) == hash.Of(2, 1) {
		t.Error("the order does not count")
	}
	if hash.Of(0) == hash.Of() || hash.Of(0, 0) == hash.Of(0) {
		t.Error("the id 0 does not count")
	}
}

// P6.2: each id is taken back from each hash.
func TestBack(t *testing.T) {
	for _, h := range hashes() {
		for _, id := range ids() {
			got := hash.Back(h, id)
			if want := slowBack(h, id); got != want {
				t.Fatalf("Back(%x, %x): %x, not %x", h, id, got, want)
			}
			if again := slowAdded(got, id); again != h {
				t.Fatalf("Back(%x, %x): %x, to which %x comes", h, id, got, again)
			}
		}
	}
	if got := hash.Back(0, 0); got != 0 {
		t.Errorf("Back(0, 0): %x", got)
	}
	if got := hash.Back(api.HashPrime, 1<<56); got != 0 {
		t.Errorf("Back of the prime: %x", got)
	}
}

// P6.3: the slot is what is left, also of hashes that no int can be, and among more than 2^40.
func TestSlot(t *testing.T) {
	for _, h := range hashes() {
		for _, many := range slotCounts() {
			got, e := hash.Slot(h, many)
			if want := slowSlot(h, many, 0); got != want || e != api.OK {
				t.Fatalf("Slot(%d, %d): %d %d, not %d", h, many, got, e, want)
			}
		}
	}
	if got, e := hash.Slot(10, 4); got != 2 || e != api.OK {
		t.Errorf("Slot(10, 4): %d %d", got, e)
	}
	if got, e := hash.Slot(top, math.MaxInt); got != 1 || e != api.OK {
		t.Errorf("Slot of the greatest: %d %d", got, e)
	}
}

// P6.3: what is no number of slots.
func TestSlotWrong(t *testing.T) {
	for _, h := range hashes() {
		for _, many := range []int{0, -1, -2, -4, -1 << 40, math.MinInt + 1, math.MinInt} {
			if got, e := hash.Slot(h, many); got != 0 || e != api.ErrArg {
				t.Fatalf("Slot(%d, %d): %d %d", h, many, got, e)
			}
			for _, turn := range []int{0, 1, -1, math.MaxInt, math.MinInt} {
				if got, e := hash.Probe(h, many, turn); got != 0 || e != api.ErrArg {
					t.Fatalf("Probe(%d, %d, %d): %d %d", h, many, turn, got, e)
				}
			}
		}
	}
}

// P6.3: the slot so many turns from there: none, one less than there are slots, as many, and more than an int has room for beside a slot.
func TestProbe(t *testing.T) {
	for _, h := range hashes() {
		for _, many := range slotCounts() {
			if many > 1<<40 {
				continue
			}
			for _, turn := range []int{0, 1, 2, many - 1, many, many + 1, 3 * many, math.MaxInt - many, math.MaxInt - 1, math.MaxInt} {
				got, e := hash.Probe(h, many, turn)
				if want := slowSlot(h, many, turn); got != want || e != api.OK {
					t.Fatalf("Probe(%d, %d, %d): %d %d, not %d", h, many, turn, got, e, want)
				}
			}
		}
	}
	if got, e := hash.Probe(10, 4, 3); got != 1 || e != api.OK {
		t.Errorf("Probe(10, 4, 3): %d %d", got, e)
	}
}

// P6.3: too many slots, and turns below 0.
func TestProbeWrong(t *testing.T) {
	for _, h := range hashes() {
		for _, many := range []int{1<<40 + 1, 1 << 41, 1 << 62, math.MaxInt} {
			for _, turn := range []int{0, 1, -1, math.MaxInt} {
				if got, e := hash.Probe(h, many, turn); got != 0 || e != api.ErrArg {
					t.Fatalf("Probe(%d, %d, %d): %d %d", h, many, turn, got, e)
				}
			}
		}
		for _, many := range []int{1, 2, 4, 1 << 40} {
			for _, turn := range []int{-1, -2, -4, -1 << 40, math.MinInt} {
				if got, e := hash.Probe(h, many, turn); got != 0 || e != api.ErrArg {
					t.Fatalf("Probe(%d, %d, %d): %d %d", h, many, turn, got, e)
				}
			}
		}
	}
}

// R3: a row that is handed in stays as it is, the room behind its end, too.
func TestRowsStay(t *testing.T) {
	room := []api.Id{5, 3, 9, 8, 7}
	was := slices.Clone(room)
	hash.Of(room[:2]...)
	if !slices.Equal(room, was) {
		t.Errorf("%v", room)
	}
}
