package lookup_test

import (
	"slices"
	"testing"

	"windrose/api"
	"windrose/lookup"
)

// must is the lookup that comes, if it may be.
func must(t *testing.T, l api.Lookup, e api.Errno) api.Lookup {
	t.Helper()
	if e != api.OK || lookup.Check(l) != api.OK || !isLookup(l) {
		t.Fatal(e, lookup.Check(l), len(l.Slots))
	}
	return l
}

// P7.5: put, and dropped, it says what it did.
func TestThereAndBack(t *testing.T) {
	for name, l := range good() {
		for _, typ := range tried() {
			next, e := lookup.Put(l, typ, 9)
			if e != api.OK {
				continue
			}
			next, e = lookup.Drop(must(t, next, e), typ)
			if next = must(t, next, e); !sameEntries(lookup.All(next), lookup.All(l)) {
				t.Fatalf("%s: %v", name, typ)
			}
			if _, ok := lookup.Find(next, typ); ok {
				t.Fatalf("%s: %v is still found", name, typ)
			}
		}
	}
}

// P7.5: in whatever order types are put, it says the same.
func TestAnyOrder(t *testing.T) {
	sets := [][][]api.Id{several(40), kin(2, 8, 9), kin(7, 8, 7), tried()[:8], append(kin(6, 8, 3), kin(7, 8, 3)...)}
	for i, types := range sets {
		var want []api.Entry
		for seed := range 30 {
			l := lookup.New()
			for _, at := range source(int64(seed)).Perm(len(types)) {
				next, e := lookup.Put(l, types[at], at)
				l = must(t, next, e)
			}
			if seed == 0 {
				want = lookup.All(l)
			}
			if got := lookup.All(l); !sameEntries(got, want) || lookup.Many(l) != len(types) {
				t.Fatal(i, seed, got)
			}
		}
	}
}

// P7.5 and P7.3: from three quarters on more slots are laid, and all is found; a left slot is used again.
func TestLaidAnew(t *testing.T) {
	types := several(50)
	l := lookup.New()
	for i, typ := range types {
		next, e := lookup.Put(l, typ, i)
		l = must(t, next, e)
		for j, typ := range types {
			if n, ok := lookup.Find(l, typ); ok != (j <= i) || ok && n != j {
				t.Fatal(i, j, n, ok)
			}
		}
	}
	six := placed(8, kin(2, 8, 6)...)
	again, e := lookup.Drop(six, kin(2, 8, 2)[1])
	again, e = lookup.Put(must(t, again, e), kin(2, 8, 7)[6], 8)
	if again = must(t, again, e); lookup.Many(again) != 6 {
		t.Fatal(again)
	}
}

// P7.5: dropped and put without end, no more slots are needed than its types ask for.
func TestNoEnd(t *testing.T) {
	l := lookup.New()
	for i, typ := range several(600) {
		next, e := lookup.Put(l, typ, i)
		next, e = lookup.Drop(must(t, next, e), typ)
		l = must(t, next, e)
	}
	if lookup.Many(l) != 0 || len(l.Slots) > 16 {
		t.Error(lookup.Many(l), len(l.Slots))
	}
}

// model is what is said, as a map has it.
type model struct {
	types  [][]api.Id
	number map[int]int
}

func (m model) entries() []api.Entry {
	var all []api.Entry
	for at, n := range m.number {
		all = append(all, used(m.types[at], n))
	}
	slices.SortFunc(all, func(a, b api.Entry) int { return slices.Compare(a.Type, b.Type) })
	return all
}

// P7.2 to P7.5: whatever is put and dropped, it says what a map would.
func TestLikeAMap(t *testing.T) {
	sets := [][][]api.Id{several(12), several(60), kin(2, 8, 10), append(kin(6, 8, 6), kin(7, 8, 6)...), kin(5, 16, 14)}
	for i, types := range sets {
		for seed := range 8 {
			r := source(int64(100*i + seed))
			l, m := lookup.New(), model{types, map[int]int{}}
			for step := range 300 {
				at, n := r.Intn(len(types)), r.Intn(50)
				_, there := m.number[at]
				if r.Intn(10) < 5 {
					next, e := lookup.Put(l, types[at], n)
					if there && e != api.ErrThere {
						t.Fatal(i, seed, step, e)
					}
					if !there {
						l = must(t, next, e)
						m.number[at] = n
					}
				} else {
					next, e := lookup.Drop(l, types[at])
					if !there && e != api.ErrNone {
						t.Fatal(i, seed, step, e)
					}
					if there {
						l = must(t, next, e)
						delete(m.number, at)
					}
				}
				if !sameEntries(lookup.All(l), m.entries()) || lookup.Many(l) != len(m.number) {
					t.Fatal(i, seed, step)
				}
			}
		}
	}
}

// P7.3 and P7.5: put one by one up to MaxLookup, and no further.
func TestUpToTheMost(t *testing.T) {
	types := several(api.MaxLookup + 1)
	l := placed(4096, types[:3060]...)
	for i := 3060; i < api.MaxLookup; i++ {
		// Of those between, few: each costs as much as all slots.
		if i == 3080 {
			l = placed(8192, types[:api.MaxLookup-10]...)
			i = api.MaxLookup - 10
		}
		next, e := lookup.Put(l, types[i], i)
		l = must(t, next, e)
	}
	if _, e := lookup.Put(l, types[api.MaxLookup], 1); e != api.ErrFull || lookup.Many(l) != api.MaxLookup {
		t.Fatal(e, lookup.Many(l))
	}
	for i, e := range lookup.All(l) {
		if i%61 == 0 {
			if n, ok := lookup.Find(l, e.Type); !ok || n != e.Number || !slices.Equal(types[n], e.Type) {
				t.Fatal(i, n, ok)
			}
		}
	}
}
