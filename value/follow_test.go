package value_test

import (
	"slices"
	"testing"

	"windrose/api"
	"windrose/value"
)

// P4.5: of two values one stands ahead, or they are one.
func TestOneAhead(t *testing.T) {
	for _, a := range some() {
		for _, b := range some() {
			there, back := value.Compare(a, b), value.Compare(b, a)
			if there != -back || there < -1 || there > 1 || (there == 0) != value.Same(a, b) {
				t.Fatal(a, b, there, back)
			}
		}
	}
}

// P4.5: the order goes on over a third.
func TestOrderGoesOn(t *testing.T) {
	all := append(rows(2, 0, 1, 1<<63, greatest), rows(3, 0, greatest)...)
	all = append(all, val(0, 0, 0, 1), val(0, 0, 0, 0), val(greatest, 0, 0, 0))
	for _, a := range all {
		for _, b := range all {
			for _, c := range all {
				if value.Compare(a, b) <= 0 && value.Compare(b, c) <= 0 && value.Compare(a, c) > 0 {
					t.Fatal(a, b, c)
				}
				if value.Compare(a, b) < 0 && value.Compare(b, c) <= 0 && value.Compare(a, c) >= 0 {
					t.Fatal(a, b, c)
				}
			}
		}
	}
}

// P4.5: Zero of n stands ahead of all others of that width, and fits where n is the width.
func TestZeroFollows(t *testing.T) {
	for n := range api.MaxWidth + 1 {
		zero, e := value.Zero(n)
		if e != api.OK || value.Check(zero) != api.OK {
			t.Fatal(n, zero, e)
		}
		for _, v := range some() {
			if len(v) == n && !value.Same(v, zero) && value.Compare(zero, v) != -1 {
				t.Error(zero, v)
			}
		}
		for name, w := range good() {
			for at, width := range w {
				if got := value.Fits(w, at+1, zero); got != (width == n) {
					t.Error(name, at+1, n, got)
				}
			}
		}
	}
}

// R3: what is handed in stays as it is, the room behind it, too.
func TestHandedIn(t *testing.T) {
	start := func() api.Value { return val(1, 255, 0, greatest, 7, 8, 9) }
	for long := range 6 {
		v := start()
		short := v[:long]
		value.Check(short)
		value.Same(short, short)
		value.Compare(short, v)
		value.Text(short)
		value.Fits(all(long), 1, short)
		if !slices.Equal(v, start()) {
			t.Error(long, v)
		}
	}
}

// R3: what is answered is new memory, each time.
func TestNewMemory(t *testing.T) {
	for n := range api.MaxWidth + 1 {
		first, _ := value.Zero(n)
		for at := range first[:cap(first)] {
			first[:cap(first)][at] = 7
		}
		if second, _ := value.Zero(n); !isSame(second, make(api.Value, n)) {
			t.Error(n, second)
		}
	}
	for _, s := range []string{"-", "1", "1,ff", "1,2,3", "1,2,3,4"} {
		first, _ := value.Read(s)
		clear(first[:cap(first)])
		second, _ := value.Read(s)
		if text, _ := value.Text(second); text != s {
			t.Error(s, text)
		}
	}
}
