package hash_test

import (
	"encoding/binary"
	"hash/fnv"
	"math"
	"math/big"
	"math/rand"

	"windrose/api"
)

const top = math.MaxUint64

// word is 2^64: what does not fit falls off.
func word() *big.Int { return new(big.Int).Lsh(big.NewInt(1), 64) }

func number(w uint64) *big.Int { return new(big.Int).SetUint64(w) }

// slowByteAdded is a hash to which a byte is added, bit by bit and with no end of digits.
func slowByteAdded(h uint64, b byte) uint64 {
	n := number(h)
	for bit := range 8 {
		if b>>bit&1 == 1 {
			n.SetBit(n, bit, 1-n.Bit(bit))
		}
	}
	n.Mul(n, number(api.HashPrime))
	return n.Mod(n, word()).Uint64()
}

// slowByteBack is a hash from which a byte is taken back.
func slowByteBack(h uint64, b byte) uint64 {
	undo := new(big.Int).ModInverse(number(api.HashPrime), word())
	n := new(big.Int).Mul(number(h), undo)
	n.Mod(n, word())
	return n.Xor(n, number(uint64(b))).Uint64()
}

func slowAdded(h uint64, id api.Id) uint64 {
	for _, b := range binary.LittleEndian.AppendUint64(nil, uint64(id)) {
		h = slowByteAdded(h, b)
	}
	return h
}

func slowBack(h uint64, id api.Id) uint64 {
	for _, b := range binary.BigEndian.AppendUint64(nil, uint64(id)) {
		h = slowByteBack(h, b)
	}
	return h
}

// libraryOf is the library's own hash of that kind, of a row's bytes.
func libraryOf(l []api.Id) uint64 {
	sum := fnv.New64a()
	for _, id := range l {
		sum.Write(binary.LittleEndian.AppendUint64(nil, uint64(id)))
	}
	return sum.Sum64()
}

// hashes are the edges that are named, and some between.
func hashes() []uint64 {
	l := []uint64{
		0, 1, 7, 10, 255, 256, api.HashPrime, api.HashBasis,
		1<<40 - 1, 1 << 40, 1<<40 + 1,
		1<<63 - 1, 1 << 63, 1<<63 + 1, top - 1, top,
	}
	r := rand.New(rand.NewSource(6))
	for range 60 {
		l = append(l, r.Uint64(), r.Uint64()>>r.Intn(64))
	}
	return l
}

// ids are the edges, ids whose eight bytes all differ, ids of one byte at each place, and some between.
func ids() []api.Id {
	l := []api.Id{0, 1, 2, 0x0102030405060708, 0x0807060504030201, 0xfedcba9876543210, 0x80ff7f0001aa5543, 1 << 63, top - 1, top}
	for place := range 8 {
		l = append(l, 0xff<<(place*8), 1<<(place*8), 0x80<<(place*8))
	}
	r := rand.New(rand.NewSource(66))
	for range 30 {
		l = append(l, api.Id(r.Uint64()))
	}
	return l
}

// rows are rows of no ids, of one, and of many.
func rows() [][]api.Id {
	all := ids()
	out := [][]api.Id{nil, {}, {0}, {top}, {0, 0}, {1, 2}, {2, 1}, {1, 1, 1}, all[:12], all}
	for _, id := range all {
		out = append(out, []api.Id{id})
	}
	long := make([]api.Id, 5000)
	for i := range long {
		long[i] = all[i%len(all)] + api.Id(i)
	}
	return append(out, long)
}

// slotCounts are counts of slots that may be, of Slot; those from 2^40 + 1 on not of Probe.
func slotCounts() []int {
	return []int{
		1, 2, 3, 4, 7, 8, 10, 255, 256, 1000, 4000, 8192,
		1<<31 - 1, 1 << 31, 1 << 32, 1<<40 - 1, 1 << 40,
		1<<40 + 1, 1 << 41, 1 << 62, math.MaxInt - 1, math.MaxInt,
	}
}

// slowSlot is what is left of a hash and turns, divided by so many.
func slowSlot(h uint64, many, turn int) int {
	n := new(big.Int).Add(number(h), big.NewInt(int64(turn)))
	return int(n.Mod(n, big.NewInt(int64(many))).Int64())
}
