package lookup_test

import (
	"encoding/binary"
	"hash/fnv"
	"math"
	"math/rand"
	"slices"

	"windrose/api"
)

// Bits of ids, as the chapter of ids has them.
func entity(index, gen int) api.Id { return api.Id(gen)<<32 | api.Id(index) }
func comp(n int) api.Id            { return 1<<62 | api.Id(n) }
func pair(r, t int) api.Id         { return 1<<63 | api.Id(r)<<32 | api.Id(t) }

func row(l ...api.Id) []api.Id { return l }

// home is the slot of a type's hash among so many, by the library's own hash of that kind.
func home(t []api.Id, many int) int {
	sum := fnv.New64a()
	for _, id := range t {
		sum.Write(binary.LittleEndian.AppendUint64(nil, uint64(id)))
	}
	return int(sum.Sum64() % uint64(many))
}

// kin are so many types of one pair each whose hashes have that slot among so many.
func kin(slot, many, count int) [][]api.Id {
	var all [][]api.Id
	for target := 1; len(all) < count; target++ {
		if t := row(pair(3, target)); home(t, many) == slot {
			all = append(all, t)
		}
	}
	return all
}

// several are so many types, of no id up to MaxType of them, none twice.
func several(count int) [][]api.Id {
	all := [][]api.Id{nil}
	for n := 1; len(all) < count; n++ {
		long := 1 + n%api.MaxType
		var t []api.Id
		if long > 1 {
			t = append(t, comp(1+n%api.MaxComponent))
		}
		for len(t) < long {
			t = append(t, pair(1+n%5, n*16+len(t)))
		}
		all = append(all, t)
	}
	return all[:count]
}

func used(t []api.Id, number int) api.Entry {
	return api.Entry{State: api.SlUsed, Type: t, Number: number}
}

func left() api.Entry { return api.Entry{State: api.SlLeft} }

// laid is so many slots, these at their places, all others free.
func laid(many int, at map[int]api.Entry) api.Lookup {
	l := api.Lookup{Slots: make([]api.Entry, many)}
	for place, e := range at {
		l.Slots[place] = e
	}
	return l
}

// placed is so many slots in which the types stand, each at the first free one from its own on, with its place in the row as its number.
func placed(many int, ts ...[]api.Id) api.Lookup {
	l := api.Lookup{Slots: make([]api.Entry, many)}
	for number, t := range ts {
		at := home(t, many)
		for l.Slots[at].State != api.SlFree {
			at = (at + 1) % many
		}
		l.Slots[at] = used(t, number)
	}
	return l
}

// isType is what the chapter of types says of one, word by word.
func isType(l []api.Id) bool {
	for i, id := range l {
		r, t := int(id>>32&(1<<30-1)), int(id&(1<<30-1))
		isPair := id == pair(r, t) && r >= 1 && r <= api.MaxIndex && t >= 1 && t <= api.MaxIndex
		isComponent := id >= comp(1) && id <= comp(api.MaxComponent)
		if !isPair && !isComponent || i > 0 && l[i-1] >= id {
			return false
		}
	}
	return len(l) <= 12
}

// isLookup is what the chapter says of one that may be, word by word.
func isLookup(l api.Lookup) bool {
	many := len(l.Slots)
	power := 8
	for power < many {
		power += power
	}
	if power != many {
		return false
	}
	notFree := 0
	for _, e := range l.Slots {
		switch e.State {
		case 0:
		case 1, 2:
			notFree++
		default:
			return false
		}
		if e.State == 1 && (!isType(e.Type) || e.Number < 0) || e.State != 1 && (len(e.Type) > 0 || e.Number != 0) {
			return false
		}
	}
	if notFree > 4000 || float64(notFree) > 0.75*float64(many) {
		return false
	}
	return reached(l) && eachOnce(l)
}

// reached tells whether no slot is free from that of each type's hash up to where it stands.
func reached(l api.Lookup) bool {
	for place, e := range l.Slots {
		if e.State != api.SlUsed {
			continue
		}
		for at := home(e.Type, len(l.Slots)); at != place; at = (at + 1) % len(l.Slots) {
			if l.Slots[at].State == api.SlFree {
				return false
			}
		}
	}
	return true
}

// said are the used entries, in order of their types.
func said(l api.Lookup) []api.Entry {
	var all []api.Entry
	for _, e := range l.Slots {
		if e.State == api.SlUsed {
			all = append(all, e)
		}
	}
	slices.SortFunc(all, func(a, b api.Entry) int { return slices.Compare(a.Type, b.Type) })
	return all
}

func eachOnce(l api.Lookup) bool {
	all := said(l)
	for i := range all {
		if i > 0 && slices.Equal(all[i-1].Type, all[i].Type) {
			return false
		}
	}
	return true
}

func sameEntry(a, b api.Entry) bool {
	return a.State == b.State && a.Number == b.Number && slices.Equal(a.Type, b.Type)
}

func sameEntries(a, b []api.Entry) bool { return slices.EqualFunc(a, b, sameEntry) }

// says tells whether just these are said.
func says(l api.Lookup, all ...api.Entry) bool {
	all = slices.Clone(all)
	slices.SortFunc(all, func(a, b api.Entry) int { return slices.Compare(a.Type, b.Type) })
	return sameEntries(said(l), all)
}

func isZero(l api.Lookup) bool { return len(l.Slots) == 0 }

// clone is the lookup, with the room behind the ends of its lists, in other memory.
func clone(l api.Lookup) api.Lookup {
	slots := slices.Clone(l.Slots[:cap(l.Slots)])
	for i, e := range slots {
		slots[i].Type = slices.Clone(e.Type[:cap(e.Type)])[:len(e.Type)]
	}
	return api.Lookup{Slots: slots[:len(l.Slots)]}
}

// withRoom is the lookup, with room behind the ends of its lists in which something stands.
func withRoom(l api.Lookup) api.Lookup {
	out := api.Lookup{Slots: make([]api.Entry, len(l.Slots), len(l.Slots)+3)}
	copy(out.Slots, l.Slots)
	for i := range out.Slots[:cap(out.Slots)] {
		e := &out.Slots[:cap(out.Slots)][i]
		if i >= len(l.Slots) {
			*e = used(row(comp(9)), 99)
		}
		e.Type = append(slices.Clone(e.Type), 7, 8)[:len(e.Type)]
	}
	return out
}

// sameWhole tells whether both are the same, with what stands behind the ends of their lists.
func sameWhole(a, b api.Lookup) bool {
	if len(a.Slots) != len(b.Slots) {
		return false
	}
	return slices.EqualFunc(a.Slots[:cap(a.Slots)], b.Slots[:cap(a.Slots)], func(a, b api.Entry) bool {
		return sameEntry(a, b) && slices.Equal(a.Type[:cap(a.Type)], b.Type[:cap(a.Type)])
	})
}

// good are lookups that may be: the edges that are named, and some between.
func good() map[string]api.Lookup {
	last := kin(7, 8, 3)
	second := kin(2, 8, 6)
	all := map[string]api.Lookup{
		"all free":               laid(8, nil),
		"all free, 16":           laid(16, nil),
		"all free, many":         laid(1<<15, nil),
		"no ids":                 placed(8, nil),
		"no ids, not nil":        placed(8, []api.Id{}),
		"free with an empty row": laid(8, map[int]api.Entry{3: {Type: []api.Id{}}, 4: {State: api.SlLeft, Type: []api.Id{}}}),
		"some":                   placed(8, several(4)...),
		"one slot":               placed(8, second[:4]...),
		"one slot, the most":     placed(8, second...),
		"round":                  placed(8, last...),
		"round, by left ones":    laid(8, map[int]api.Entry{7: left(), 0: left(), 1: used(last[0], 5)}),
		"left ahead":             laid(8, map[int]api.Entry{2: left(), 3: used(second[0], 0)}),
		"left ones ahead":        laid(8, map[int]api.Entry{2: left(), 3: left(), 4: left(), 5: left(), 6: left(), 7: used(second[0], math.MaxInt)}),
		"left behind":            laid(8, map[int]api.Entry{2: used(second[0], 1), 3: left()}),
		"left alone":             laid(8, map[int]api.Entry{0: left()}),
		"three quarters left":    laid(8, map[int]api.Entry{0: left(), 1: left(), 2: left(), 4: left(), 5: left(), 6: left()}),
		"three quarters of both": laid(8, map[int]api.Entry{0: left(), 1: left(), 2: used(second[0], 3), 3: used(second[1], 3), 4: left(), 6: left()}),
		"three quarters of 16":   placed(16, several(12)...),
		"three quarters of 64":   placed(64, several(48)...),
		"three quarters of 4096": placed(4096, several(3072)...),
		"all that may be":        placed(8192, several(api.MaxLookup)...),
		"one less":               placed(8192, several(api.MaxLookup-1)...),
		"numbers":                placed(8, row(comp(1)), row(comp(2))),
	}
	all["numbers"].Slots[home(row(comp(1)), 8)].Number = math.MaxInt
	all["all left that may be"] = leftOnes(8192, api.MaxLookup)
	return all
}

// leftOnes is so many slots, of which the first ones are left.
func leftOnes(many, count int) api.Lookup {
	l := laid(many, nil)
	for at := range count {
		l.Slots[at] = left()
	}
	return l
}

// wrongTypes are rows of ids that are no type.
func wrongTypes() [][]api.Id {
	long := make([]api.Id, api.MaxType+1)
	for i := range long {
		long[i] = pair(5, i+1)
	}
	return [][]api.Id{
		{entity(5, 0)}, {comp(1), entity(5, 2)}, {entity(1, 0), comp(1)}, {0}, {math.MaxUint64},
		{pair(0, 1)}, {pair(1, 0)}, {pair(0, 0)}, {comp(0)}, {comp(api.MaxComponent + 1)},
		{comp(1), comp(1)}, {comp(2), comp(1)}, {pair(1, 1), comp(1)}, {pair(2, 2), pair(2, 1)}, long,
	}
}

// bad are lookups that may not be, each for one reason alone.
func bad() map[string]api.Lookup {
	second := kin(2, 8, 7)
	last := kin(7, 8, 2)
	c1 := row(comp(1))
	all := map[string]api.Lookup{
		"nothing":                    {},
		"no slots":                   {Slots: []api.Entry{}},
		"1 slot":                     laid(1, nil),
		"2 slots":                    laid(2, nil),
		"4 slots":                    laid(4, nil),
		"7 slots":                    laid(7, nil),
		"9 slots":                    laid(9, nil),
		"12 slots":                   laid(12, nil),
		"24 slots":                   laid(24, nil),
		"8191 slots":                 laid(8191, nil),
		"12 slots, a type":           placed(12, c1),
		"4 slots, a type":            placed(4, c1),
		"a state beyond":             laid(8, map[int]api.Entry{3: {State: 3}}),
		"a state far beyond":         laid(8, map[int]api.Entry{7: {State: math.MaxInt}}),
		"a state below":              laid(8, map[int]api.Entry{0: {State: -1}}),
		"a state far below":          laid(8, map[int]api.Entry{3: {State: math.MinInt}}),
		"a state beyond, a type":     laid(8, map[int]api.Entry{2: {State: 3, Type: second[0]}}),
		"free, a number":             laid(8, map[int]api.Entry{0: {Number: 1}}),
		"free, a number below":       laid(8, map[int]api.Entry{0: {Number: -1}}),
		"free, a type":               laid(8, map[int]api.Entry{2: {Type: second[0]}}),
		"the last one free, a type":  laid(8, map[int]api.Entry{7: {Type: last[0]}}),
		"left, a number":             laid(8, map[int]api.Entry{5: {State: api.SlLeft, Number: 1}}),
		"left, a number below":       laid(8, map[int]api.Entry{5: {State: api.SlLeft, Number: -1}}),
		"left, a type":               laid(8, map[int]api.Entry{2: {State: api.SlLeft, Type: second[0]}}),
		"used, a number below":       laid(8, map[int]api.Entry{2: used(second[0], -1)}),
		"used, a number far below":   laid(8, map[int]api.Entry{2: used(second[0], math.MinInt)}),
		"twice, side by side":        laid(8, map[int]api.Entry{2: used(second[0], 1), 3: used(second[0], 1)}),
		"twice, other numbers":       laid(8, map[int]api.Entry{2: used(second[0], 1), 3: used(second[0], 2)}),
		"twice, others between":      laid(8, map[int]api.Entry{2: used(second[0], 1), 3: left(), 4: used(second[1], 2), 5: used(second[0], 3)}),
		"twice, left ahead":          laid(8, map[int]api.Entry{2: left(), 3: used(second[0], 1), 4: used(second[0], 1)}),
		"twice, round":               laid(8, map[int]api.Entry{7: used(last[0], 1), 0: used(last[0], 1)}),
		"no ids twice":               placed(8, nil, nil),
		"free at its own":            laid(8, map[int]api.Entry{3: used(second[0], 1)}),
		"free just ahead":            laid(8, map[int]api.Entry{2: used(second[0], 1), 4: used(second[1], 2)}),
		"free between":               laid(8, map[int]api.Entry{2: left(), 4: left(), 5: used(second[1], 2)}),
		"free ahead, round":          laid(8, map[int]api.Entry{7: used(last[0], 1), 1: used(last[1], 2)}),
		"one slot early":             laid(8, map[int]api.Entry{1: used(second[0], 1)}),
		"7 of 8":                     placed(8, second...),
		"7 of 8 left":                leftOnes(8, 7),
		"all left":                   leftOnes(8, 8),
		"7 of 8 of both":             laid(8, map[int]api.Entry{2: used(second[0], 1), 3: used(second[1], 1), 4: left(), 5: left(), 6: left(), 7: left(), 0: left()}),
		"13 of 16":                   placed(16, several(13)...),
		"49 of 64":                   placed(64, several(49)...),
		"one more than the most":     placed(8192, several(api.MaxLookup+1)...),
		"one more, left":             leftOnes(8192, api.MaxLookup+1),
		"one more, in far more":      placed(1<<15, several(api.MaxLookup+1)...),
		"three quarters of 8192":     leftOnes(8192, 6144),
		"one more, left, in 2 to 15": leftOnes(1<<15, api.MaxLookup+1),
	}
	for i, t := range wrongTypes() {
		all["no type "+string(rune('a'+i))] = placed(8, t)
	}
	both := placed(8192, several(api.MaxLookup)...)
	both.Slots[slices.IndexFunc(both.Slots, func(e api.Entry) bool { return e.State == api.SlFree })] = left()
	all["the most, and one left"] = both
	return all
}

// tried are types to be looked for, put and dropped, and rows that are none.
func tried() [][]api.Id {
	all := append(several(8), kin(2, 8, 7)...)
	all = append(all, kin(7, 8, 3)...)
	all = append(all, row(comp(1)), row(comp(2)), row(comp(1), comp(2)))
	return all
}

func source(seed int64) *rand.Rand { return rand.New(rand.NewSource(seed)) }
