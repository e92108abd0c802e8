package ident_test

import (
	"math"
	"testing"

	"windrose/api"
	"windrose/ident"
)

// Bits, as the chapter's table has them, apart from the program's own cutting.
func entityBits(index, gen int) api.Id { return api.Id(gen)<<32 | api.Id(index) }
func componentBits(n int) api.Id       { return 1<<62 | api.Id(n) }
func pairBits(r, t int) api.Id         { return 1<<63 | api.Id(r)<<32 | api.Id(t) }

var (
	goodIndexes    = []int{1, 2, 3, 9, 10, 99, 100, 1023, 1 << 16, 1 << 19, 1 << 20, 1<<20 + 1, api.MaxIndex}
	badIndexes     = []int{0, -1, -2, math.MinInt, math.MaxInt, api.MaxIndex + 1, 1 << 29, 1<<30 - 1, 1 << 30, 1<<30 + 1, 1<<32 + 1, 1<<62 + 1}
	goodGens       = []int{0, 1, 2, 3, 4, 5, 6, api.MaxGen}
	badGens        = []int{-1, api.MaxGen + 1, 15, 16, 1 << 30, math.MinInt, math.MaxInt}
	goodComponents = []int{1, 2, 3, 9, 10, 11, 23, api.MaxComponent}
	badComponents  = []int{0, -1, api.MaxComponent + 1, 32, 1<<30 + 1, 1<<32 + 1, math.MinInt, math.MaxInt}
)

// known is an id that the table has, with all that is to be told of it.
type known struct {
	id            api.Id
	kind          int
	first, second int
}

// all are ids of every kind, the edges among them.
func all() []known {
	var out []known
	for _, index := range goodIndexes {
		for _, gen := range goodGens {
			out = append(out, known{entityBits(index, gen), api.IdEntity, index, gen})
		}
	}
	for _, n := range goodComponents {
		out = append(out, known{componentBits(n), api.IdComponent, n, 0})
	}
	indexes := append([]int{0}, goodIndexes...)
	for _, r := range indexes {
		for _, t := range indexes {
			kind := api.IdPair
			if r == 0 || t == 0 {
				kind = api.IdPattern
			}
			out = append(out, known{pairBits(r, t), kind, r, t})
		}
	}
	return out
}

// none are ids of no kind.
func none() []api.Id {
	out := []api.Id{
		0,
		math.MaxUint64,
		entityBits(0, 0), entityBits(0, 1), entityBits(0, api.MaxGen),
		entityBits(api.MaxIndex+1, 0), entityBits(1<<30-1, 0),
		entityBits(1, api.MaxGen+1), entityBits(1, 1<<30-1),
		componentBits(0), componentBits(api.MaxComponent + 1), componentBits(1<<30 - 1),
		pairBits(api.MaxIndex+1, 1), pairBits(1, api.MaxIndex+1),
		pairBits(api.MaxIndex+1, 0), pairBits(0, api.MaxIndex+1),
		pairBits(api.MaxIndex+1, api.MaxIndex+1),
		1<<62 | pairBits(1, 1), 1<<62 | pairBits(0, 0), 1<<62 | pairBits(0, 1),
	}
	for bit := 32; bit < 62; bit++ { // a component has nothing there
		out = append(out, componentBits(3)|1<<bit)
	}
	for bit := 35; bit < 62; bit++ { // behind an entity's generation
		out = append(out, entityBits(3, 2)|1<<bit)
	}
	for _, bit := range []int{30, 31} { // no kind has anything there
		for _, id := range []api.Id{entityBits(3, 2), componentBits(3), pairBits(3, 2), pairBits(0, 2), pairBits(3, 0), pairBits(0, 0)} {
			out = append(out, id|1<<bit)
		}
	}
	return out
}

// P1.1: Entity makes what the table says, of all numbers that it takes.
func TestEntity(t *testing.T) {
	for _, index := range goodIndexes {
		for _, gen := range goodGens {
			id, e := ident.Entity(index, gen)
			if e != api.OK || id != entityBits(index, gen) {
				t.Errorf("Entity(%d, %d) = %#x, %d", index, gen, uint64(id), e)
			}
		}
	}
}

// P1.1: Entity refuses all others.
func TestEntityRefuses(t *testing.T) {
	refuse := func(index, gen int) {
		if id, e := ident.Entity(index, gen); e != api.ErrArg || id != 0 {
			t.Errorf("Entity(%d, %d) = %#x, %d", index, gen, uint64(id), e)
		}
	}
	for _, index := range badIndexes {
		for _, gen := range append(goodGens, badGens...) {
			refuse(index, gen)
		}
	}
	for _, index := range goodIndexes {
		for _, gen := range badGens {
			refuse(index, gen)
		}
	}
}

// P1.1: Component.
func TestComponent(t *testing.T) {
	for _, n := range goodComponents {
		if id, e := ident.Component(n); e != api.OK || id != componentBits(n) {
			t.Errorf("Component(%d) = %#x, %d", n, uint64(id), e)
		}
	}
	for _, n := range badComponents {
		if id, e := ident.Component(n); e != api.ErrArg || id != 0 {
			t.Errorf("Component(%d) = %#x, %d", n, uint64(id), e)
		}
	}
}

// P1.1: Pair, which takes 0 in either part, or both.
func TestPair(t *testing.T) {
	good := append([]int{0}, goodIndexes...)
	for _, r := range good {
		for _, x := range good {
			id, e := ident.Pair(r, x)
			if e != api.OK || id != pairBits(r, x) {
				t.Errorf("Pair(%d, %d) = %#x, %d", r, x, uint64(id), e)
			}
			if pattern := ident.Kind(id) == api.IdPattern; pattern != (r == 0 || x == 0) {
				t.Errorf("Pair(%d, %d) is a pattern: %t", r, x, pattern)
			}
		}
	}
	for _, bad := range badIndexes[1:] {
		for _, other := range append(good, bad) {
			if id, e := ident.Pair(bad, other); e != api.ErrArg || id != 0 {
				t.Errorf("Pair(%d, %d) = %#x, %d", bad, other, uint64(id), e)
			}
			if id, e := ident.Pair(other, bad); e != api.ErrArg || id != 0 {
				t.Errorf("Pair(%d, %d) = %#x, %d", other, bad, uint64(id), e)
			}
		}
	}
}

// P1.2: the kind, and the parts, of all ids of a kind.
func TestKindAndParts(t *testing.T) {
	for _, k := range all() {
		if kind := ident.Kind(k.id); kind != k.kind {
			t.Errorf("Kind(%#x) = %d, not %d", uint64(k.id), kind, k.kind)
		}
		if a, b := ident.Parts(k.id); a != k.first || b != k.second {
			t.Errorf("Parts(%#x) = %d, %d, not %d, %d", uint64(k.id), a, b, k.first, k.second)
		}
	}
}

// P1.2: whatever else there is, is of no kind, and has no parts.
func TestNoKind(t *testing.T) {
	for _, id := range none() {
		if kind := ident.Kind(id); kind != api.IdNone {
			t.Errorf("Kind(%#x) = %d", uint64(id), kind)
		}
		if a, b := ident.Parts(id); a != 0 || b != 0 {
			t.Errorf("Parts(%#x) = %d, %d", uint64(id), a, b)
		}
	}
}

// P1.2: one bit more, or less, makes another id of a kind only as the table says.
func TestEachBit(t *testing.T) {
	for _, k := range all() {
		for bit := range 64 {
			id := k.id ^ 1<<bit
			if got, want := ident.Kind(id), tableKind(id); got != want {
				t.Errorf("Kind(%#x) = %d, not %d", uint64(id), got, want)
			}
		}
	}
}

// tableKind is the table's word, bit by bit.
func tableKind(id api.Id) int {
	low, high := int(id&(1<<30-1)), int(id>>32&(1<<30-1))
	if id>>30&3 != 0 {
		return api.IdNone
	}
	switch id >> 62 {
	case 0:
		if low >= 1 && low <= 1<<20+2 && high <= 7 {
			return api.IdEntity
		}
	case 1:
		if low >= 1 && low <= 24 && high == 0 {
			return api.IdComponent
		}
	case 2:
		if low > 1<<20+2 || high > 1<<20+2 {
			return api.IdNone
		}
		if low == 0 || high == 0 {
			return api.IdPattern
		}
		return api.IdPair
	}
	return api.IdNone
}

// P1.3, P1.5: a pattern takes the pairs whose parts it names, and nothing else; any other id takes itself alone.
func TestTakes(t *testing.T) {
	some := all()
	for i, p := range some {
		if i%3 != 0 && p.kind != api.IdPattern {
			continue
		}
		for _, k := range some {
			want := p.id == k.id
			if p.kind == api.IdPattern {
				want = k.kind == api.IdPair && (p.first == 0 || p.first == k.first) && (p.second == 0 || p.second == k.second)
			}
			if got := ident.Takes(p.id, k.id); got != want {
				t.Errorf("Takes(%#x, %#x) = %t", uint64(p.id), uint64(k.id), got)
			}
		}
	}
}

// P1.3: what is of no kind takes nothing, not even itself, and is taken by nothing.
func TestTakesNone(t *testing.T) {
	for _, id := range none() {
		for _, other := range none() {
			if ident.Takes(id, other) {
				t.Errorf("Takes(%#x, %#x)", uint64(id), uint64(other))
			}
		}
		for _, k := range all() {
			if ident.Takes(id, k.id) {
				t.Errorf("Takes(%#x, %#x)", uint64(id), uint64(k.id))
			}
			if ident.Takes(k.id, id) {
				t.Errorf("Takes(%#x, %#x)", uint64(k.id), uint64(id))
			}
		}
	}
}

// P1.3, P1.5: any and any takes all pairs; no pattern takes a pattern, not even itself.
func TestTakesAny(t *testing.T) {
	whole := pairBits(0, 0)
	for _, k := range all() {
		if got := ident.Takes(whole, k.id); got != (k.kind == api.IdPair) {
			t.Errorf("Takes(any and any, %#x) = %t", uint64(k.id), got)
		}
		if k.kind == api.IdPattern && ident.Takes(k.id, k.id) {
			t.Errorf("Takes(%#x, itself)", uint64(k.id))
		}
	}
}

// P1.5: an id is made again of its parts.
func TestMadeOfParts(t *testing.T) {
	for _, k := range all() {
		first, second := ident.Parts(k.id)
		var id api.Id
		var e api.Errno
		switch ident.Kind(k.id) {
		case api.IdEntity:
			id, e = ident.Entity(first, second)
		case api.IdComponent:
			id, e = ident.Component(first)
		case api.IdPair, api.IdPattern:
			id, e = ident.Pair(first, second)
		}
		if e != api.OK || id != k.id {
			t.Errorf("%#x is made again as %#x, %d", uint64(k.id), uint64(id), e)
		}
	}
}

// P1.5: entities stand by generations, then indexes, ahead of components, and these ahead of pairs.
func TestOrder(t *testing.T) {
	var last api.Id
	next := func(id api.Id, e api.Errno) {
		if e != api.OK || id <= last {
			t.Errorf("%#x, %d stands behind %#x", uint64(id), e, uint64(last))
		}
		last = id
	}
	for gen := 0; gen <= api.MaxGen; gen++ {
		for _, index := range goodIndexes {
			next(ident.Entity(index, gen))
		}
	}
	for n := 1; n <= api.MaxComponent; n++ {
		next(ident.Component(n))
	}
	for _, r := range append([]int{0}, goodIndexes...) {
		for _, x := range append([]int{0}, goodIndexes...) {
			next(ident.Pair(r, x))
		}
	}
}
