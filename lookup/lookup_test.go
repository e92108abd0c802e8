package lookup_test

import (
	"math"
	"slices"
	"testing"

	"windrose/api"
	"windrose/lookup"
)

// P7.1: 8 slots, all free, in memory of their own.
func TestNew(t *testing.T) {
	l := lookup.New()
	if len(l.Slots) != 8 || !isLookup(l) || len(said(l)) != 0 {
		t.Fatal(l)
	}
	for i, e := range l.Slots {
		if e.State != api.SlFree || len(e.Type) != 0 || e.Number != 0 {
			t.Error(i, e)
		}
	}
	l.Slots[0] = left()
	if again := lookup.New(); again.Slots[0].State != api.SlFree {
		t.Error("two share memory")
	}
}

// P7.1: what may be, and what may not, each for one reason.
func TestCheck(t *testing.T) {
	for name, l := range good() {
		if !isLookup(l) {
			t.Fatalf("%s: the test's own is wrong", name)
		}
		if e := lookup.Check(l); e != api.OK {
			t.Errorf("%s: %d", name, e)
		}
	}
	for name, l := range bad() {
		if isLookup(l) {
			t.Fatalf("%s: the test's own is wrong", name)
		}
		if e := lookup.Check(l); e != api.ErrLookup {
			t.Errorf("%s: %d", name, e)
		}
	}
}

// P7.1: of all lookups of 8 slots in which few kinds of entries stand, those that may be are those that the words say.
func TestCheckAllSmall(t *testing.T) {
	second, last := kin(2, 8, 2), kin(7, 8, 1)
	entries := []api.Entry{{}, left(), used(second[0], 0), used(second[1], 1), used(last[0], 2)}
	slots := make([]api.Entry, 8)
	may := 0
	var fill func(at int)
	fill = func(at int) {
		if at < len(slots) {
			for _, e := range entries {
				slots[at] = e
				fill(at + 1)
			}
			return
		}
		want := api.ErrLookup
		if isLookup(api.Lookup{Slots: slots}) {
			want = api.OK
			may++
		}
		if got := lookup.Check(api.Lookup{Slots: slots}); got != want {
			t.Fatalf("%v: %d", slots, got)
		}
	}
	fill(0)
	if may < 100 {
		t.Error("so few may be:", may)
	}
}

// P7.2: each type is found that is there, with its number, and none other.
func TestFind(t *testing.T) {
	for name, l := range good() {
		all := said(l)
		for i, e := range all {
			// Of the great ones some are enough.
			if i > 100 && i%97 != 0 {
				continue
			}
			if n, ok := lookup.Find(l, e.Type); !ok || n != e.Number {
				t.Fatalf("%s: %v: %d %v, not %d", name, e.Type, n, ok, e.Number)
			}
		}
		for _, typ := range append(tried(), wrongTypes()...) {
			there := slices.ContainsFunc(all, func(e api.Entry) bool { return slices.Equal(e.Type, typ) })
			if n, ok := lookup.Find(l, typ); ok != there || !ok && n != 0 {
				t.Fatalf("%s: %v: %d %v", name, typ, n, ok)
			}
		}
	}
}

// P7.2: All are the used ones in order, Many is how many.
func TestAllMany(t *testing.T) {
	for name, l := range good() {
		want := said(l)
		if got := lookup.All(l); !sameEntries(got, want) {
			t.Errorf("%s: %v", name, got)
		}
		if got := lookup.Many(l); got != len(want) {
			t.Errorf("%s: %d", name, got)
		}
	}
}

// P7.2: the order is that of the types, whatever their numbers and slots are: no ids first, a beginning ahead of what goes on.
func TestAllInOrder(t *testing.T) {
	rows := [][]api.Id{nil, row(comp(1)), row(comp(1), comp(3)), row(comp(1), pair(1, 1)), row(comp(2)), row(pair(1, 1)), row(pair(1, 2)), row(pair(2, 1))}
	l := lookup.New()
	for i, at := range []int{5, 2, 7, 0, 3, 6, 1, 4} {
		var e api.Errno
		if l, e = lookup.Put(l, rows[at], 100-i); e != api.OK {
			t.Fatal(at, e)
		}
	}
	all := lookup.All(l)
	if len(all) != len(rows) {
		t.Fatal(all)
	}
	for i, e := range all {
		if !slices.Equal(e.Type, rows[i]) || e.State != api.SlUsed {
			t.Error(i, e)
		}
	}
}

// P7.2: of what may not be nothing is found and told.
func TestTellNothing(t *testing.T) {
	for name, l := range bad() {
		if all, many := lookup.All(l), lookup.Many(l); len(all) != 0 || many != 0 {
			t.Errorf("%s: %v %d", name, all, many)
		}
		for i, e := range l.Slots {
			if i > 100 && i%97 != 0 {
				continue
			}
			if n, ok := lookup.Find(l, e.Type); n != 0 || ok {
				t.Errorf("%s: %v: %d %v", name, e.Type, n, ok)
			}
		}
	}
}

// P7.3: what is put is said besides, into every kind of lookup, with the least number and the greatest.
func TestPut(t *testing.T) {
	for name, l := range good() {
		if len(said(l)) == api.MaxLookup {
			continue
		}
		for i, typ := range tried() {
			if slices.ContainsFunc(said(l), func(e api.Entry) bool { return slices.Equal(e.Type, typ) }) {
				continue
			}
			number := []int{0, 7, math.MaxInt}[i%3]
			next, e := lookup.Put(l, typ, number)
			if e != api.OK || !isLookup(next) || !says(next, append(said(l), used(typ, number))...) {
				t.Fatalf("%s: put %v: %v %d", name, typ, next, e)
			}
		}
	}
}

// P7.3: what is there already stays alone, with whatever number.
func TestPutThere(t *testing.T) {
	for name, l := range good() {
		for i, e := range said(l) {
			if i > 20 && i%397 != 0 {
				continue
			}
			for _, number := range []int{0, e.Number, math.MaxInt} {
				if next, err := lookup.Put(l, e.Type, number); err != api.ErrThere || !isZero(next) {
					t.Fatalf("%s: %v: %v %d", name, e.Type, next, err)
				}
			}
		}
	}
}

// P7.3: MaxLookup types, and one more; the errors that are named ahead go ahead.
func TestPutFull(t *testing.T) {
	all := several(api.MaxLookup + 1)
	l := placed(8192, all[:api.MaxLookup]...)
	more := all[api.MaxLookup]
	for _, q := range []struct {
		name   string
		typ    []api.Id
		number int
		want   api.Errno
	}{
		{"one more", more, 0, api.ErrFull},
		{"one more, far more", row(pair(9, 9)), math.MaxInt, api.ErrFull},
		{"there", all[5], 0, api.ErrThere},
		{"there, a number below", all[5], -1, api.ErrArg},
		{"a number below", more, -1, api.ErrArg},
		{"no type", row(entity(5, 0)), -1, api.ErrType},
	} {
		if next, e := lookup.Put(l, q.typ, q.number); e != q.want || !isZero(next) {
			t.Errorf("%s: %d", q.name, e)
		}
	}
	next, e := lookup.Drop(l, all[77])
	if e != api.OK || !isLookup(next) || lookup.Many(next) != api.MaxLookup-1 {
		t.Fatal("drop:", e)
	}
	// Now as many are not free as may be, and still one is to be put, wherever its own slot is.
	for _, typ := range append(tried(), more) {
		if _, there := lookup.Find(next, typ); there {
			continue
		}
		last, e := lookup.Put(next, typ, 3)
		if e != api.OK || !isLookup(last) || !says(last, append(said(next), used(typ, 3))...) {
			t.Fatalf("put %v: %d", typ, e)
		}
	}
}

// P7.3: wrong inputs, the first one that is named being answered.
func TestPutWrong(t *testing.T) {
	for name, l := range good() {
		for _, typ := range wrongTypes() {
			for _, number := range []int{0, 5, -1, math.MinInt} {
				if next, e := lookup.Put(l, typ, number); e != api.ErrType || !isZero(next) {
					t.Errorf("%s: %v %d: %d", name, typ, number, e)
				}
			}
		}
		for _, typ := range tried()[:9] {
			for _, number := range []int{-1, -2, math.MinInt} {
				if next, e := lookup.Put(l, typ, number); e != api.ErrArg || !isZero(next) {
					t.Errorf("%s: %v %d: %d", name, typ, number, e)
				}
			}
		}
	}
}

// P7.3, P7.4: of what may not be ErrLookup is told, ahead of all else.
func TestErrLookup(t *testing.T) {
	for name, l := range bad() {
		for _, typ := range [][]api.Id{nil, row(comp(5)), row(entity(5, 0)), kin(2, 8, 1)[0]} {
			for _, number := range []int{0, -1} {
				if next, e := lookup.Put(l, typ, number); e != api.ErrLookup || !isZero(next) {
					t.Errorf("%s: put %v: %d", name, typ, e)
				}
			}
			if next, e := lookup.Drop(l, typ); e != api.ErrLookup || !isZero(next) {
				t.Errorf("%s: drop %v: %d", name, typ, e)
			}
		}
	}
}

// P7.4: what is dropped is said no more, and all others are.
func TestDrop(t *testing.T) {
	for name, l := range good() {
		all := said(l)
		for i, e := range all {
			if i > 20 && i%397 != 0 {
				continue
			}
			next, err := lookup.Drop(l, e.Type)
			if err != api.OK || !isLookup(next) || !says(next, slices.Delete(slices.Clone(all), i, i+1)...) {
				t.Fatalf("%s: %v: %v %d", name, e.Type, next, err)
			}
		}
	}
}

// P7.4: what is not there can't be dropped, be it a type or not.
func TestDropNone(t *testing.T) {
	for name, l := range good() {
		for _, typ := range append(tried(), wrongTypes()...) {
			if slices.ContainsFunc(said(l), func(e api.Entry) bool { return slices.Equal(e.Type, typ) }) {
				continue
			}
			if next, e := lookup.Drop(l, typ); e != api.ErrNone || !isZero(next) {
				t.Errorf("%s: %v: %d", name, typ, e)
			}
		}
	}
}

// R3: what is handed in stays as it is, the room behind its ends, too.
func TestArgumentsStay(t *testing.T) {
	for name, l := range good() {
		if len(l.Slots) > 100 {
			continue
		}
		l = withRoom(l)
		was := clone(l)
		for _, typ := range tried() {
			typ = append(slices.Clone(typ), 5, 6)[:len(typ)]
			typWas := slices.Clone(typ[:cap(typ)])
			lookup.Check(l)
			lookup.Find(l, typ)
			lookup.Put(l, typ, 1)
			lookup.Drop(l, typ)
			lookup.All(l)
			lookup.Many(l)
			if !sameWhole(l, was) || !slices.Equal(typ[:cap(typ)], typWas) {
				t.Fatalf("%s: %v", name, typ)
			}
		}
	}
}

// spoil changes each list of the entries, up to the end of its room.
func spoil(entries []api.Entry) {
	for i := range entries[:cap(entries)] {
		typ := entries[:cap(entries)][i].Type
		typ = typ[:cap(typ)]
		for j := range typ {
			typ[j] = 1
		}
		entries[:cap(entries)][i] = api.Entry{State: 9, Number: 9}
	}
}

// R3: what is answered is new memory, of the lookup and of the type.
func TestAnswersNew(t *testing.T) {
	for name, l := range good() {
		if len(l.Slots) > 100 {
			continue
		}
		l = withRoom(l)
		was := clone(l)
		for _, typ := range tried() {
			typ = append(slices.Clone(typ), 5, 6)[:len(typ)]
			typWas := slices.Clone(typ[:cap(typ)])
			put, _ := lookup.Put(l, typ, 1)
			spoil(put.Slots)
			drop, _ := lookup.Drop(l, typ)
			spoil(drop.Slots)
			spoil(lookup.All(l))
			if !sameWhole(l, was) || !slices.Equal(typ[:cap(typ)], typWas) {
				t.Fatalf("%s: %v", name, typ)
			}
		}
	}
}

// apart tells whether no two lists of the entries share memory.
func apart(entries []api.Entry) bool {
	for i := range entries {
		typ := entries[i].Type
		typ = typ[:cap(typ)]
		for j := range typ {
			typ[j] = api.Id(i + 1)
		}
	}
	for i := range entries {
		for _, id := range entries[i].Type[:cap(entries[i].Type)] {
			if id != api.Id(i+1) {
				return false
			}
		}
	}
	return true
}

// R3: no two lists of an answer share memory.
func TestListsApart(t *testing.T) {
	for name, l := range good() {
		if len(l.Slots) > 100 {
			continue
		}
		for _, typ := range tried() {
			put, _ := lookup.Put(l, typ, 1)
			drop, _ := lookup.Drop(l, typ)
			if !apart(put.Slots) || !apart(drop.Slots) || !apart(lookup.All(l)) {
				t.Fatalf("%s: %v", name, typ)
			}
		}
	}
}
