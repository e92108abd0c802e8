package alloc_test

import (
	"math"
	"slices"
	"testing"

	"windrose/alloc"
	"windrose/api"
)

// P2.1: New has the first two alone, at each Most; ErrArg at what is none.
func TestNew(t *testing.T) {
	for _, most := range []int{1, 2, 3, 1000, api.MaxMost - 1, api.MaxMost} {
		a, err := alloc.New(most)
		if err != api.OK || !same(a, made(most, nil)) {
			t.Error(most, a, err)
		}
		if err := alloc.Check(a); err != api.OK {
			t.Error(most, err)
		}
	}
	for _, most := range []int{0, -1, math.MinInt, api.MaxMost + 1, math.MaxInt} {
		if a, err := alloc.New(most); err != api.ErrArg || !isZero(a) {
			t.Error(most, a, err)
		}
	}
}

// P2.1: two that New makes share no memory.
func TestNewApart(t *testing.T) {
	a, _ := alloc.New(1)
	a.Slots[0], a.Slots[1] = dead(5), dead(6)
	if b, err := alloc.New(1); err != api.OK || !same(b, made(1, nil)) {
		t.Error(b, err)
	}
}

// P2.1: Check knows those that may be from those that may not.
func TestCheck(t *testing.T) {
	for name, a := range good() {
		if err := alloc.Check(a); err != api.OK {
			t.Error(name, err)
		}
	}
	for name, a := range bad() {
		if err := alloc.Check(a); err != api.ErrAlloc {
			t.Error(name, err)
		}
	}
}

// P2.1: nil and empty lists are one.
func TestEmptyLists(t *testing.T) {
	a, b := made(1, nil, live(0)), made(1, []int{}, live(0))
	if alloc.Check(b) != api.OK || !alloc.Same(a, b) || !alloc.Same(b, a) {
		t.Error(b)
	}
	if !alloc.Same(api.Alloc{}, api.Alloc{Slots: []api.Slot{}, Free: []int{}}) {
		t.Error("nothing")
	}
	if _, _, err := alloc.Take(b); err != api.ErrFull {
		t.Error(err)
	}
}

// may is what the chapter says of an allocator, word by word.
func may(a api.Alloc) bool {
	if a.Most < 1 || a.Most > api.MaxMost || len(a.Slots) < 2 || len(a.Slots) > a.Most+2 {
		return false
	}
	if a.Slots[0] != live(0) || a.Slots[1] != live(0) {
		return false
	}
	free, alive := []int{}, -2
	for place, s := range a.Slots {
		if s.Gen < 0 || s.Gen > api.MaxGen {
			return false
		}
		if s.Alive {
			alive++
		} else if s.Gen != api.MaxGen {
			free = append(free, place+1)
		}
	}
	have := slices.Clone(a.Free)
	slices.Sort(have)
	return alive <= a.Most && slices.Equal(free, have)
}

// rows are all rows of that many of the items.
func rows[T any](long int, items ...T) [][]T {
	out := [][]T{nil}
	for range long {
		var next [][]T
		for _, row := range out {
			for _, item := range items {
				next = append(next, append(slices.Clone(row), item))
			}
		}
		out = next
	}
	return out
}

// P2.1: Check, at all small allocators.
func TestCheckSmall(t *testing.T) {
	var slots [][]api.Slot
	var frees [][]int
	for long := range 5 {
		slots = append(slots, rows(long, live(0), live(7), live(8), dead(-1), dead(0), dead(6), dead(7))...)
	}
	for long := range 4 {
		frees = append(frees, rows(long, 0, 1, 2, 3, 4, 5)...)
	}
	for most := range 4 {
		for _, s := range slots {
			for _, f := range frees {
				a := api.Alloc{Most: most, Slots: s, Free: f}
				if got := alloc.Check(a); (got == api.OK) != may(a) || got != api.OK && got != api.ErrAlloc {
					t.Fatal(a, got)
				}
			}
		}
	}
}

// P2.1: Same goes part by part, at those that may not be, too.
func TestSame(t *testing.T) {
	all := []api.Alloc{
		{}, {Most: 1}, {Slots: []api.Slot{live(0)}}, {Free: []int{3}}, {Free: []int{4, 3}},
		made(1, nil), made(2, nil), made(1, nil, live(0)), made(1, nil, dead(0)), made(1, nil, live(1)),
		made(1, []int{3}, dead(0)), made(2, []int{3}, dead(0)), made(1, []int{4}, dead(0)), made(1, []int{3, 3}, dead(0)),
		made(2, []int{3, 4}, dead(0), dead(0)), made(2, []int{4, 3}, dead(0), dead(0)), made(2, nil, dead(0), dead(0)),
		made(2, []int{3, 4}, dead(0), dead(1)), made(2, []int{3, 4}, dead(1), dead(0)), made(2, []int{3, 4}, dead(0)),
	}
	for i, a := range all {
		for j, b := range all {
			b = api.Alloc{Most: b.Most, Slots: slices.Clone(b.Slots), Free: slices.Clone(b.Free)}
			if got := alloc.Same(a, b); got != (i == j) {
				t.Error(a, b, got)
			}
		}
	}
}

// P2.2: Take, case by case.
func TestTake(t *testing.T) {
	for _, c := range []struct {
		name      string
		from, to  api.Alloc
		id        api.Id
		err       api.Errno
		roomAhead int
	}{
		{"first", made(1, nil), made(1, nil, live(0)), entity(3, 0), api.OK, 1},
		{"one more", made(3, nil, live(4)), made(3, nil, live(4), live(0)), entity(4, 0), api.OK, 2},
		{"the last index", made(2, nil, live(7)), made(2, nil, live(7), live(0)), entity(4, 0), api.OK, 1},
		{"free ahead of new", made(9, []int{3}, dead(0), live(1)), made(9, nil, live(1), live(1)), entity(3, 1), api.OK, 8},
		{"last of Free", made(3, []int{5, 3, 4}, dead(0), dead(1), dead(2)), made(3, []int{5, 3}, dead(0), live(2), dead(2)), entity(4, 2), api.OK, 3},
		{"last generation", made(1, []int{3}, dead(6)), made(1, nil, live(7)), entity(3, 7), api.OK, 1},
		{"worn, and free", made(2, []int{4}, dead(7), dead(1)), made(2, nil, dead(7), live(2)), entity(4, 2), api.OK, 1},
		{"worn, and new", made(2, nil, dead(7)), made(2, nil, dead(7), live(0)), entity(4, 0), api.OK, 1},
		{"full", made(1, nil, live(0)), api.Alloc{}, 0, api.ErrFull, 0},
		{"full of the last generation", made(2, nil, live(7), live(7)), api.Alloc{}, 0, api.ErrFull, 0},
		{"worn", made(1, nil, dead(7)), api.Alloc{}, 0, api.ErrWorn, 0},
		{"worn, others alive", made(3, nil, live(0), dead(7), live(2)), api.Alloc{}, 0, api.ErrWorn, 0},
	} {
		if got := alloc.Room(c.from); got != c.roomAhead {
			t.Error(c.name, "Room", got)
		}
		to, id, err := alloc.Take(c.from)
		if !same(to, c.to) || id != c.id || err != c.err {
			t.Error(c.name, to, id, err)
		}
	}
}

// P2.2, P2.3, P2.5: the greatest index of all.
func TestGreatest(t *testing.T) {
	a := full(api.MaxMost)
	last := len(a.Slots) - 1
	if _, id, err := alloc.Take(a); err != api.ErrFull || id != 0 {
		t.Error(id, err)
	}
	a.Slots = a.Slots[:last]
	b, id := taken(t, a)
	if id != entity(api.MaxIndex, 0) || len(b.Slots) != api.MaxIndex || alloc.Room(a) != 1 || alloc.Room(b) != 0 {
		t.Fatal(id, len(b.Slots))
	}
	if at, ok := alloc.At(b, api.MaxIndex); at != id || !ok {
		t.Error(at, ok)
	}
	if all := alloc.All(b); len(all) != api.MaxIndex || all[last] != id || all[0] != entity(1, 0) {
		t.Error(len(all))
	}
	c := given(t, b, id)
	if !slices.Equal(c.Free, []int{api.MaxIndex}) || alloc.Alive(c, id) {
		t.Error(c.Free)
	}
	if _, id := taken(t, c); id != entity(api.MaxIndex, 1) {
		t.Error(id)
	}
	if alloc.Room(made(api.MaxMost, nil)) != api.MaxMost {
		t.Error("Room")
	}
}

// P2.3: Give of none, one and several.
func TestGive(t *testing.T) {
	busy := made(7, []int{8, 6}, live(0), live(3), live(7), dead(0), live(2), dead(4))
	for _, c := range []struct {
		name string
		l    []api.Id
		to   api.Alloc
	}{
		{"none", nil, busy},
		{"one", []api.Id{entity(3, 0)}, made(7, []int{8, 6, 3}, dead(0), live(3), live(7), dead(0), live(2), dead(4))},
		{"one that is worn", []api.Id{entity(5, 7)}, made(7, []int{8, 6}, live(0), live(3), dead(7), dead(0), live(2), dead(4))},
		{"several, rising", []api.Id{entity(3, 0), entity(4, 3), entity(7, 2)}, made(7, []int{8, 6, 3, 4, 7}, dead(0), dead(3), live(7), dead(0), dead(2), dead(4))},
		{"several, falling", []api.Id{entity(7, 2), entity(4, 3), entity(3, 0)}, made(7, []int{8, 6, 3, 4, 7}, dead(0), dead(3), live(7), dead(0), dead(2), dead(4))},
		{"all", []api.Id{entity(4, 3), entity(7, 2), entity(5, 7), entity(3, 0)}, made(7, []int{8, 6, 3, 4, 7}, dead(0), dead(3), dead(7), dead(0), dead(2), dead(4))},
	} {
		ids := slices.Clone(c.l)
		to, err := alloc.Give(busy, ids...)
		if !same(to, c.to) || err != api.OK || !slices.Equal(ids, c.l) {
			t.Error(c.name, to, err)
		}
	}
	for name, a := range good() {
		if b, err := alloc.Give(a); !same(a, b) || err != api.OK {
			t.Error(name, err)
		}
	}
}

// P2.3: what may not be given, and which error goes ahead.
func TestGiveWrong(t *testing.T) {
	a := made(5, []int{4}, live(2), dead(3), live(7), live(0))
	wrong := map[api.Errno][][]api.Id{
		api.ErrDead: {
			{entity(4, 3)}, {entity(4, 0)}, {entity(4, 4)}, // dead, stale, not yet
			{entity(3, 1)}, {entity(3, 3)}, {entity(1, 1)}, {entity(2, 7)},
			{entity(7, 0)}, {entity(8, 0)}, {entity(api.MaxIndex, 0)},
			{entity(3, 2), entity(4, 3)}, {entity(4, 3), entity(3, 2)},
			{entity(1, 0), entity(4, 3)}, {entity(4, 3), entity(2, 0)},
			{entity(3, 2), entity(3, 2), entity(7, 0)}, {entity(3, 2), entity(3, 1)}, {entity(4, 3), entity(4, 3)},
		},
		api.ErrArg: {
			{entity(1, 0)}, {entity(2, 0)}, {entity(1, 0), entity(2, 0)}, {entity(1, 0), entity(1, 0)},
			{entity(3, 2), entity(1, 0)}, {entity(2, 0), entity(6, 0)},
			{entity(3, 2), entity(3, 2)}, {entity(5, 7), entity(5, 7)},
			{entity(3, 2), entity(6, 0), entity(3, 2)}, {entity(6, 0), entity(3, 2), entity(5, 7), entity(5, 7)},
		},
	}
	for _, id := range noEntities() {
		wrong[api.ErrDead] = append(wrong[api.ErrDead], []api.Id{id}, []api.Id{entity(3, 2), id}, []api.Id{entity(1, 0), id})
	}
	before := made(5, []int{4}, live(2), dead(3), live(7), live(0))
	for want, lists := range wrong {
		for _, l := range lists {
			if b, err := alloc.Give(a, l...); err != want || !isZero(b) {
				t.Error(l, b, err)
			}
		}
	}
	if !same(a, before) {
		t.Error(a)
	}
}

// P2.4: Room is how often Take has no error.
func TestRoom(t *testing.T) {
	for name, a := range good() {
		want := alloc.Room(a)
		if a.Most > 100 {
			continue
		}
		got := 0
		for b := a; ; got++ {
			next, _, err := alloc.Take(b)
			if err != api.OK {
				break
			}
			b = next
		}
		if got != want {
			t.Error(name, got, want)
		}
	}
}

// P2.5: Alive, At and All.
func TestAlive(t *testing.T) {
	a := made(6, []int{4}, live(2), dead(3), live(7), dead(7), live(0))
	want := []api.Id{entity(1, 0), entity(2, 0), entity(3, 2), entity(5, 7), entity(7, 0)}
	if got := alloc.All(a); !slices.Equal(got, want) {
		t.Error(got)
	}
	for index := range 12 {
		at, ok := alloc.At(a, index)
		for gen := range 16 {
			id := entity(index, gen)
			alive := slices.Contains(want, id)
			if alloc.Alive(a, id) != alive {
				t.Error(index, gen)
			}
			if (at == id && ok) != alive && id != 0 {
				t.Error(index, gen, at, ok)
			}
		}
		if !ok && at != 0 {
			t.Error(index, at)
		}
	}
	for _, index := range []int{0, -1, 4, 6, 8, 9, api.MaxIndex, math.MaxInt, math.MinInt, 1<<32 + 3} {
		if id, ok := alloc.At(a, index); id != 0 || ok {
			t.Error(index, id, ok)
		}
	}
	for _, id := range noEntities() {
		if alloc.Alive(a, id) {
			t.Error(id)
		}
	}
}

// P2.1 to P2.5: of what may not be, ErrAlloc goes ahead of all else, and nothing is told.
func TestWrongAlloc(t *testing.T) {
	for name, a := range bad() {
		if b, id, err := alloc.Take(a); err != api.ErrAlloc || id != 0 || !isZero(b) {
			t.Error(name, "Take", err)
		}
		for _, l := range [][]api.Id{nil, {entity(1, 0)}, {entity(3, 0)}, {entity(3, 0), entity(3, 0)}, {0}} {
			if b, err := alloc.Give(a, l...); err != api.ErrAlloc || !isZero(b) {
				t.Error(name, "Give", err)
			}
		}
		if n := alloc.Room(a); n != 0 {
			t.Error(name, "Room", n)
		}
		if l := alloc.All(a); len(l) != 0 {
			t.Error(name, "All", len(l))
		}
		for _, index := range []int{0, 1, 2, 3, 4} {
			if id, ok := alloc.At(a, index); id != 0 || ok {
				t.Error(name, "At", index)
			}
			if alloc.Alive(a, entity(index, 0)) || alloc.Alive(a, entity(index, 1)) {
				t.Error(name, "Alive", index)
			}
		}
		if !alloc.Same(a, a) {
			t.Error(name, "Same")
		}
	}
}
