package alloc_test

import (
	"math/rand"
	"slices"
	"strconv"
	"testing"

	"windrose/alloc"
	"windrose/api"
)

// The chapter's examples, the rows of its table one behind the other.
func TestExamples(t *testing.T) {
	a, err := alloc.New(1)
	if err != api.OK || len(a.Slots) != 2 {
		t.Fatal(a, err)
	}
	b, id := taken(t, a)
	if _, _, err := alloc.Take(b); id != entity(3, 0) || err != api.ErrFull {
		t.Error(id, err)
	}
	c := given(t, b, id)
	d, id := taken(t, c)
	if !slices.Equal(c.Free, []int{3}) || id != entity(3, 1) || !slices.Equal(alloc.All(d), []api.Id{entity(1, 0), entity(2, 0), entity(3, 1)}) {
		t.Error(c, id, d)
	}
	_, first := alloc.Give(d, entity(1, 0))
	_, third := alloc.Give(d, entity(3, 0))
	if alloc.Alive(d, entity(3, 0)) || first != api.ErrArg || third != api.ErrDead {
		t.Error(first, third)
	}
	for gen := range 8 {
		b, id := taken(t, a)
		if id != entity(3, gen) {
			t.Fatal(gen, id)
		}
		a = given(t, b, id)
	}
	if _, _, err := alloc.Take(a); err != api.ErrWorn || alloc.Room(a) != 0 {
		t.Error(err, alloc.Room(a))
	}
}

// key is an allocator as a text.
func key(a api.Alloc) string {
	out := strconv.Itoa(a.Most)
	for _, s := range a.Slots {
		out += " " + strconv.Itoa(s.Gen) + strconv.FormatBool(s.Alive)
	}
	for _, index := range a.Free {
		out += "," + strconv.Itoa(index)
	}
	return out
}

// some are all lists that can be picked of ids, each in their order, and each turned round.
func some(ids []api.Id) [][]api.Id {
	var out [][]api.Id
	for bits := range 1 << len(ids) {
		var l []api.Id
		for place, id := range ids {
			if bits>>place&1 == 1 {
				l = append(l, id)
			}
		}
		back := slices.Clone(l)
		slices.Reverse(back)
		out = append(out, l, back)
	}
	return out
}

// wantTake is what a Take comes to, by the words of P2.2.
func wantTake(a api.Alloc) (api.Alloc, api.Id, api.Errno) {
	b := api.Alloc{Most: a.Most, Slots: slices.Clone(a.Slots), Free: slices.Clone(a.Free)}
	alive := 0
	for _, s := range a.Slots[2:] {
		if s.Alive {
			alive++
		}
	}
	if alive == a.Most {
		return api.Alloc{}, 0, api.ErrFull
	}
	if n := len(b.Free); n > 0 {
		index := b.Free[n-1]
		b.Free = b.Free[:n-1]
		b.Slots[index-1] = live(b.Slots[index-1].Gen + 1)
		return b, entity(index, b.Slots[index-1].Gen), api.OK
	}
	if len(b.Slots) < b.Most+2 {
		b.Slots = append(b.Slots, live(0))
		return b, entity(len(b.Slots), 0), api.OK
	}
	return api.Alloc{}, 0, api.ErrWorn
}

// wantGive is what a Give of some that are alive comes to, by the words of P2.3.
func wantGive(a api.Alloc, l []api.Id) api.Alloc {
	b := api.Alloc{Most: a.Most, Slots: slices.Clone(a.Slots), Free: slices.Clone(a.Free)}
	for index := 3; index <= len(b.Slots); index++ {
		s := &b.Slots[index-1]
		if s.Alive && slices.Contains(l, entity(index, s.Gen)) {
			s.Alive = false
			if s.Gen != api.MaxGen {
				b.Free = append(b.Free, index)
			}
		}
	}
	return b
}

// checkTake holds a Take of a against the words of P2.2 and P2.6.
func checkTake(t *testing.T, a api.Alloc) (api.Alloc, bool) {
	t.Helper()
	b, id, err := alloc.Take(a)
	wantB, wantId, wantErr := wantTake(a)
	if !same(b, wantB) || id != wantId || err != wantErr {
		t.Fatal(a, b, id, err)
	}
	if err != api.OK {
		return b, false
	}
	if !may(b) || alloc.Alive(a, id) || !alloc.Alive(b, id) || len(alloc.All(b)) != len(alloc.All(a))+1 {
		t.Fatal(a, b, id)
	}
	c := given(t, b, id)
	if len(alloc.All(c)) != len(alloc.All(a)) {
		t.Fatal(a, c)
	}
	return b, true
}

// P2.2 to P2.6: at all allocators to which Take and Give lead from a small one.
func TestEverywhere(t *testing.T) {
	for most := 1; most <= 3; most++ {
		start, _ := alloc.New(most)
		met := map[string]int{key(start): -1}
		work := []api.Alloc{start}
		reach := func(a api.Alloc) {
			if met[key(a)] == 0 {
				met[key(a)] = -1
				work = append(work, a)
			}
		}
		for len(work) > 0 {
			a := work[len(work)-1]
			work = work[:len(work)-1]
			room := 0
			if b, ok := checkTake(t, a); ok {
				reach(b)
				room = 1 + alloc.Room(b)
			}
			if alloc.Check(a) != api.OK || alloc.Room(a) != room {
				t.Fatal(a, room)
			}
			for _, l := range some(alloc.All(a)[2:]) {
				b := given(t, a, l...)
				if !same(b, wantGive(a, l)) || !may(b) {
					t.Fatal(a, l, b)
				}
				reach(b)
			}
		}
		if len(met) < 16 {
			t.Error(most, len(met))
		}
	}
}

// P2.6: along a way of takes and gives nobody comes twice, nobody who was given comes back, and each index is used 8 times at most.
func TestNeverAgain(t *testing.T) {
	usedUp := 0
	for seed := range int64(20) {
		r := rand.New(rand.NewSource(seed))
		a, _ := alloc.New(1 + int(seed))
		uses := map[int]int{}
		was, gone := map[api.Id]int{entity(1, 0): 1, entity(2, 0): 1}, map[api.Id]int{}
		alive := []api.Id{entity(1, 0), entity(2, 0)}
		for range 600 {
			if r.Intn(2) == 0 {
				b, id, err := alloc.Take(a)
				if err != api.OK {
					continue
				}
				index := int(id & (1<<30 - 1))
				was[id]++
				uses[index]++
				if was[id] > 1 || uses[index] > 8 || index > a.Most+2 {
					t.Fatal(seed, id, was[id], uses[index])
				}
				a, alive = b, append(alive, id)
			} else if len(alive) > 2 {
				n := 2 + r.Intn(len(alive)-2)
				out := slices.Clone(alive[n:min(len(alive), n+3)])
				alive = append(alive[:n:n], alive[n+len(out):]...)
				a = given(t, a, out...)
				for _, id := range out {
					gone[id]++
				}
			}
			all := slices.Clone(alive)
			slices.SortFunc(all, func(a, b api.Id) int { return int(a&(1<<30-1)) - int(b&(1<<30-1)) })
			if !slices.Equal(alloc.All(a), all) || alloc.Check(a) != api.OK {
				t.Fatal(seed, a, all)
			}
			for id := range gone {
				if alloc.Alive(a, id) {
					t.Fatal(seed, id)
				}
			}
		}
		for _, n := range uses {
			if n == 8 {
				usedUp++
			}
		}
	}
	if usedUp == 0 {
		t.Error("no way used an index up: the bound was not met")
	}
}

// roomy is an allocator whose lists have room behind their ends, with things in it.
func roomy() (a, whole api.Alloc) {
	whole = made(9, []int{6, 4, 77, 78, 79, 80}, live(0), dead(3), live(7), dead(0), live(5), live(6), dead(2), dead(1))
	return api.Alloc{Most: 9, Slots: whole.Slots[:7], Free: whole.Free[:2]}, whole
}

// R3, at P2.2 to P2.5: what is handed in stays as it is, the room behind it, too; what is answered is new memory.
func TestMemory(t *testing.T) {
	scrub := func(b api.Alloc) {
		for _, s := range [][]api.Slot{b.Slots, b.Slots[:cap(b.Slots)]} {
			for i := range s {
				s[i] = dead(99)
			}
		}
		for _, f := range [][]int{b.Free, b.Free[:cap(b.Free)]} {
			for i := range f {
				f[i] = 99
			}
		}
	}
	calls := map[string]func(a api.Alloc) api.Alloc{
		"Take": func(a api.Alloc) api.Alloc { b, _ := taken(t, a); return b },
		"Take anew": func(a api.Alloc) api.Alloc {
			a = given(t, a, entity(5, 7))
			b, _ := taken(t, a)
			c, _ := taken(t, b)
			d, _ := taken(t, c)
			return d
		},
		"Give none":    func(a api.Alloc) api.Alloc { return given(t, a) },
		"Give":         func(a api.Alloc) api.Alloc { return given(t, a, entity(3, 0)) },
		"Give several": func(a api.Alloc) api.Alloc { return given(t, a, entity(7, 5), entity(3, 0)) },
		"Give wrong": func(a api.Alloc) api.Alloc {
			b, _ := alloc.Give(a, entity(7, 5), entity(3, 0), entity(3, 0))
			return b
		},
		"tell": func(a api.Alloc) api.Alloc {
			alloc.All(a)
			alloc.At(a, 3)
			alloc.Alive(a, 3)
			alloc.Room(a)
			alloc.Check(a)
			alloc.Same(a, a)
			return api.Alloc{}
		},
	}
	for name, call := range calls {
		a, whole := roomy()
		_, before := roomy()
		b := call(a)
		if !same(whole, before) {
			t.Error(name, "changed", whole)
		}
		kept := api.Alloc{Most: b.Most, Slots: slices.Clone(b.Slots), Free: slices.Clone(b.Free)}
		scrub(whole)
		if !same(b, kept) {
			t.Error(name, "hangs on what was handed in", b)
		}
		a, whole = roomy()
		scrub(call(a))
		if !same(whole, before) {
			t.Error(name, "hands out what was handed in", whole)
		}
	}
}

// R3, at P2.2: a Take of a new index writes nothing behind the Slots that are handed in.
func TestTakeBehind(t *testing.T) {
	whole := made(9, nil, live(0), dead(7), dead(5))
	a := api.Alloc{Most: 9, Slots: whole.Slots[:4]}
	b, id := taken(t, a)
	if id != entity(5, 0) || whole.Slots[4] != dead(5) || len(b.Slots) != 5 {
		t.Error(id, whole, b)
	}
	b.Slots[0] = dead(9)
	if whole.Slots[0] != live(0) {
		t.Error(whole)
	}
}

// R5: the same call answers the same again.
func TestTwice(t *testing.T) {
	for name, a := range good() {
		b, id, err := alloc.Take(a)
		c, id2, err2 := alloc.Take(a)
		if !same(b, c) || id != id2 || err != err2 {
			t.Error(name)
		}
	}
}
