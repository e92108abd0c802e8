// Package ident is layer 1: ids of entities, components, pairs and patterns, each in 64 bits, and their texts.
package ident

import (
	"windrose/api"
)

// Where the fields of an id lie, and what its two highest bits say.
const (
	fieldBits = 30
	fieldMask = 1<<fieldBits - 1
	highShift = 32
	headShift = 62

	headEntity    = 0
	headComponent = 1
	headPair      = 2
)

// Entity makes an entity's id of its index and its generation.
func Entity(index, gen int) (api.Id, api.Errno) {
	if !within(1, api.MaxIndex, index) || !within(0, api.MaxGen, gen) {
		return 0, api.ErrArg
	}
	return fields{head: headEntity, high: gen, low: index}.join(), api.OK
}

// Component makes a component's id of its number.
func Component(n int) (api.Id, api.Errno) {
	if !within(1, api.MaxComponent, n) {
		return 0, api.ErrArg
	}
	return fields{head: headComponent, low: n}.join(), api.OK
}

// Pair makes a pair's id of the indexes of a relation and a target; a pattern's, if one of them is 0: any.
func Pair(relation, target int) (api.Id, api.Errno) {
	if !within(0, api.MaxIndex, relation, target) {
		return 0, api.ErrArg
	}
	return fields{head: headPair, high: relation, low: target}.join(), api.OK
}

// Kind tells of which kind an id is: whichever asks for what holds; no two of them do at once.
func Kind(id api.Id) int {
	f := split(id)
	is := func(head int) bool { return f.head == head && f.spare == 0 }
	// It stands here, where it is asked, since it needs no memory that way: each layer asks for kinds, id by id.
	asks := [api.IdPattern + 1]func() bool{
		api.IdNone: func() bool { return false }, // what is left when no other kind holds
		api.IdEntity: func() bool {
			return is(headEntity) && within(0, api.MaxGen, f.high) && within(1, api.MaxIndex, f.low)
		},
		api.IdComponent: func() bool {
			return is(headComponent) && f.high == 0 && within(1, api.MaxComponent, f.low)
		},
		api.IdPair: func() bool {
			return is(headPair) && within(1, api.MaxIndex, f.high, f.low)
		},
		api.IdPattern: func() bool {
			return is(headPair) && within(0, api.MaxIndex, f.high, f.low) && !within(1, api.MaxIndex, f.high, f.low)
		},
	}
	for kind, holds := range asks {
		if holds() {
			return kind
		}
	}
	return api.IdNone
}

// Parts tells the two numbers of an id: index and generation, number and 0, or relation and target.
func Parts(id api.Id) (int, int) {
	f := split(id)
	switch Kind(id) {
	case api.IdEntity, api.IdComponent:
		return f.low, f.high
	case api.IdPair, api.IdPattern:
		return f.high, f.low
	}
	return 0, 0
}

// Takes tells of a pattern whether it takes the id, of any other id whether both are the same.
func Takes(pattern, id api.Id) bool {
	switch Kind(pattern) {
	case api.IdNone:
		return false
	case api.IdPattern:
		return Kind(id) == api.IdPair && covers(pattern, id)
	}
	return pattern == id
}

// covers tells whether each part of the pattern is any, or the pair's.
func covers(pattern, pair api.Id) bool {
	want, have := split(pattern), split(pair)
	return (want.high == 0 || want.high == have.high) && (want.low == 0 || want.low == have.low)
}

// within tells whether all numbers are from least to most.
func within(least, most int, numbers ...int) bool {
	for _, n := range numbers {
		if n < least || n > most {
			return false
		}
	}
	return true
}

// fields are the bits of an id, cut where a kind may have something; spare are those between, that no kind uses.
type fields struct {
	head, high, spare, low int
}

func split(id api.Id) fields {
	return fields{
		head:  int(id >> headShift),
		high:  int(id >> highShift & fieldMask),
		spare: int(id >> fieldBits & (1<<(highShift-fieldBits) - 1)),
		low:   int(id & fieldMask),
	}
}

func (f fields) join() api.Id {
	return api.Id(f.head)<<headShift | api.Id(f.high)<<highShift | api.Id(f.spare)<<fieldBits | api.Id(f.low)
}
