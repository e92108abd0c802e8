package hash

import (
	"iter"

	"windrose/api"
)

const (
	idBytes  = 8
	byteBits = 8
	oneByte  = 1<<byteBits - 1
)

// fromLowest and fromTop are the two orders of an id's bytes: at which place stands the one that comes so late.
func fromLowest(late int) int { return late }

func fromTop(late int) int { return idBytes - 1 - late }

// bytesOf tells the bytes of an id, in that order of their places.
func bytesOf(id api.Id, place func(late int) int) iter.Seq[uint64] {
	return func(yield func(uint64) bool) {
		for late := range idBytes {
			if !yield(uint64(id) >> (place(late) * byteBits) & oneByte) {
				return
			}
		}
	}
}

// through is what h becomes by what each byte does to it, one behind the other.
func through(h uint64, bytes iter.Seq[uint64], does func(h, b uint64) uint64) uint64 {
	for b := range bytes {
		h = does(h, b)
	}
	return h
}

// added is h, the ids being added in order.
func added(h uint64, l ...api.Id) uint64 {
	add := func(h, b uint64) uint64 { return (h ^ b) * api.HashPrime }
	for _, id := range l {
		h = through(h, bytesOf(id, fromLowest), add)
	}
	return h
}

// undoing is the number by which one multiplies to undo that one has multiplied by n, which is odd.
func undoing(n uint64) uint64 {
	undo := n // each odd number undoes itself in the lowest three bits
	for {
		if n*undo == 1 {
			goto found
		}
		undo *= 2 - n*undo // twice as many bits are right
	}
found:
	return undo
}
