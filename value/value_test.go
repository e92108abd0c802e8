package value_test

import (
	"math"
	"testing"

	"windrose/api"
	"windrose/value"
)

// P4.1: at most MaxWidth words, whatever they are.
func TestCheck(t *testing.T) {
	for _, v := range some() {
		if e := value.Check(v); e != api.OK {
			t.Error(v, e)
		}
	}
	for _, v := range tooLong() {
		if e := value.Check(v); e != api.ErrValue {
			t.Error(len(v), e)
		}
	}
	// Words, not room.
	if e := value.Check(make(api.Value, 4, 9)); e != api.OK {
		t.Error(e)
	}
}

// P4.1: the same words, as many, at the same places.
func TestSame(t *testing.T) {
	for _, a := range some() {
		for _, b := range some() {
			if got := value.Same(a, b); got != isSame(a, b) {
				t.Fatal(a, b, got)
			}
		}
	}
	if !value.Same(nil, api.Value{}) || !value.Same(api.Value{}, nil) {
		t.Error("nil and empty are not one")
	}
	if value.Same(nil, val(0)) || value.Same(val(0), val(0, 0)) || value.Same(val(1, 2), val(2, 1)) {
		t.Error("noughts, or places, do not count")
	}
}

// P4.1: of what is no value, too, just the words are asked.
func TestSameTooLong(t *testing.T) {
	for i, a := range tooLong() {
		for j, b := range tooLong() {
			if got := value.Same(a, b); got != (i == j) {
				t.Error(len(a), len(b), got)
			}
		}
		if value.Same(a, a[:4]) || value.Same(a[:4], a) || value.Same(a, nil) {
			t.Error(len(a))
		}
	}
}

// P4.1: n words that are 0.
func TestZero(t *testing.T) {
	for n, want := range []api.Value{nil, val(0), val(0, 0), val(0, 0, 0), val(0, 0, 0, 0)} {
		if v, e := value.Zero(n); e != api.OK || !isSame(v, want) {
			t.Error(n, v, e)
		}
	}
	for _, n := range wrongNumbers() {
		if v, e := value.Zero(n); e != api.ErrArg || len(v) != 0 {
			t.Error(n, len(v), e)
		}
	}
}

// P4.2: the first word that is another one, as a number; else fewer words.
func TestCompare(t *testing.T) {
	for _, a := range some() {
		for _, b := range some() {
			if got := value.Compare(a, b); got != stands(a, b) {
				t.Fatal(a, b, got)
			}
		}
	}
}

// P4.2: spelled out.
func TestCompareSpelled(t *testing.T) {
	for _, c := range []struct {
		a, b api.Value
		want int
	}{
		{nil, nil, 0},
		{nil, api.Value{}, 0},
		{nil, val(0), -1},
		{val(0), nil, 1},
		{val(1), val(1, 0), -1},
		{val(1, 0), val(1), 1},
		{val(2), val(1, 5), 1},
		{val(1, 5), val(2), -1},
		{val(1, 5), val(1, 5), 0},
		{val(0, 1), val(1, 0), -1},
		{val(9), val(10), -1},                  // as numbers, not as texts
		{val(greatest), val(1), 1},             // without a sign
		{val(1 << 63), val(math.MaxInt64), 1},  // so
		{val(0), val(greatest), -1},            // what is between them does not fit a signed word
		{val(1<<53 + 1), val(1 << 53), 1},      // not as floats
		{val(1 << 32), val(1), 1},              // nor as their low halves
		{val(0, 0, 0, 1), val(0, 0, 0, 2), -1}, // the last word
		{val(5, 4, 3, 2), val(5, 4, 3), 1},
		{val(1, greatest, greatest, greatest), val(2), -1},
	} {
		if got := value.Compare(c.a, c.b); got != c.want {
			t.Error(c.a, c.b, got)
		}
	}
}

// P4.2: what is no value stands in order by the same words.
func TestCompareTooLong(t *testing.T) {
	long := append(some()[:40], tooLong()...)
	for _, a := range long {
		for _, b := range long {
			want := 0
			for at := 0; want == 0 && (at < len(a) || at < len(b)); at++ {
				switch {
				case at == len(a), at < len(b) && a[at] < b[at]:
					want = -1
				case at == len(b), a[at] > b[at]:
					want = 1
				}
			}
			if got := value.Compare(a, b); got != want {
				t.Error(len(a), len(b), got)
			}
		}
	}
}

// P4.4: widths from 0 to MaxWidth, each component's.
func TestWide(t *testing.T) {
	for name, w := range good() {
		if e := value.Wide(w); e != api.OK {
			t.Error(name, e)
		}
	}
	for name, w := range good() {
		for at := range w {
			for _, n := range wrongNumbers() {
				bad := w
				bad[at] = n
				if e := value.Wide(bad); e != api.ErrWidths {
					t.Error(name, at, n, e)
				}
			}
		}
	}
}

// P4.4: each component's width, by its number from 1 on.
func TestWidth(t *testing.T) {
	for name, w := range good() {
		for at, want := range w {
			if n, e := value.Width(w, at+1); e != api.OK || n != want {
				t.Error(name, at+1, n, e)
			}
		}
		for _, component := range wrongComponents() {
			if n, e := value.Width(w, component); e != api.ErrArg || n != 0 {
				t.Error(name, component, n, e)
			}
		}
	}
}

// P4.4: widths that may not be go ahead of a component that is not there, and hold whichever is asked.
func TestWidthOfNoWidths(t *testing.T) {
	asked := wrongComponents()
	for n := range api.MaxComponent {
		asked = append(asked, n+1)
	}
	for at := range api.MaxComponent {
		for _, wrong := range wrongNumbers() {
			w := all(2)
			w[at] = wrong
			for _, component := range asked {
				if n, e := value.Width(w, component); e != api.ErrWidths || n != 0 {
					t.Error(at, wrong, component, n, e)
				}
				for _, v := range []api.Value{nil, val(0), val(1, 2), val(1, 2, 3, 4), val(1, 2, 3, 4, 5)} {
					if value.Fits(w, component, v) {
						t.Error(at, wrong, component, v)
					}
				}
			}
		}
	}
}

// P4.4: a value fits whose width is the component's, whatever its words are.
func TestFits(t *testing.T) {
	asked := append(rows(4, 0, greatest), tooLong()...)
	for name, w := range good() {
		for _, v := range asked {
			for at, width := range w {
				if got := value.Fits(w, at+1, v); got != (len(v) == width) {
					t.Error(name, at+1, v, got)
				}
			}
			for _, component := range wrongComponents() {
				if value.Fits(w, component, v) {
					t.Error(name, component, v)
				}
			}
		}
	}
}
