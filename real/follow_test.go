package real_test

import (
	"slices"
	"testing"

	"windrose/api"
	"windrose/real"
)

// P5.6: of two words that have numbers just one test holds, of others none.
func TestJustOne(t *testing.T) {
	for _, a := range many() {
		for _, b := range many() {
			holds := 0
			for kind := -2; kind <= 6; kind++ {
				if real.Test(kind, a, b) {
					holds++
				}
			}
			want := 1
			if real.Class(a) == api.ReNaN || real.Class(b) == api.ReNaN {
				want = 0
			}
			if holds != want {
				t.Fatalf("%x %x: %d", a, b, holds)
			}
		}
	}
}

// P5.6: the order goes on over a third, tells the same both ways, and what stands ahead is not more.
func TestOrderGoesOn(t *testing.T) {
	all := many()[:120]
	for _, a := range all {
		for _, b := range all {
			there, back := real.Compare(a, b), real.Compare(b, a)
			if there != -back || (there == 0) != (a == b) {
				t.Fatalf("%x %x: %d %d", a, b, there, back)
			}
			if there <= 0 && real.Test(api.TsMore, a, b) || there >= 0 && real.Test(api.TsLess, a, b) {
				t.Fatalf("%x %x: more", a, b)
			}
			for _, c := range all {
				if there <= 0 && real.Compare(b, c) <= 0 && real.Compare(a, c) > 0 {
					t.Fatalf("%x %x %x", a, b, c)
				}
			}
		}
	}
}

// P5.6: Next is more, and nothing is between.
func TestNextFollows(t *testing.T) {
	for _, w := range many() {
		next, e := real.Next(w)
		if e != api.OK {
			continue
		}
		if !real.Test(api.TsMore, next, w) || next == sign {
			t.Errorf("%x: %x", w, next)
		}
		between := append(many(), w-1, w+1, next-1, next+1, sign|(w+1), sign|(next+1))
		for _, v := range between {
			if real.Test(api.TsMore, v, w) && real.Test(api.TsLess, v, next) {
				t.Errorf("%x: %x, but %x", w, next, v)
			}
		}
	}
}

// R3: a row that is handed in stays as it is, the room behind its end, too.
func TestRowsStay(t *testing.T) {
	room := edges()
	was := slices.Clone(room)
	real.Ends(room[:20])
	real.Sum(room[:20])
	real.Ends(room)
	real.Sum(room)
	if !slices.Equal(room, was) {
		t.Error(room)
	}
}
