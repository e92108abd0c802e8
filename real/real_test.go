package real_test

import (
	"math"
	"slices"
	"testing"

	"windrose/api"
	"windrose/real"
)

// P5.1: the class of each edge, of either sign.
func TestClass(t *testing.T) {
	for w, is := range named() {
		for _, w := range []uint64{w, w | sign} {
			if got := real.Class(w); got != is.class {
				t.Errorf("%x: %d, not %d", w, got, is.class)
			}
		}
	}
}

// P5.1: a class is what math has of the float.
func TestClassOfFloats(t *testing.T) {
	for _, w := range many() {
		f, c := math.Float64frombits(w), real.Class(w)
		if math.IsNaN(f) != (c == api.ReNaN) || math.IsInf(f, 0) != (c == api.ReInf) || (f == 0) != (c == api.ReZero) {
			t.Errorf("%x: %d", w, c)
		}
		if tiny := f != 0 && math.Abs(f) < math.Ldexp(1, -1022); tiny != (c == api.ReSmall) {
			t.Errorf("%x: %d", w, c)
		}
	}
}

// P5.1: the parts of each edge, and the word that is made of them.
func TestPartsAndMade(t *testing.T) {
	for w, is := range named() {
		for _, below := range []bool{false, true} {
			want := w
			if below {
				want |= sign
			}
			b, exponent, mantissa := real.Parts(want)
			if b != below || exponent != is.exponent || mantissa != is.mantissa {
				t.Errorf("Parts %x: %v %d %x", want, b, exponent, mantissa)
			}
			if got, e := real.Made(below, is.exponent, is.mantissa); got != want || e != api.OK {
				t.Errorf("Made %v %d %x: %x %d", below, is.exponent, is.mantissa, got, e)
			}
		}
	}
	for _, w := range many() {
		if got, e := real.Made(real.Parts(w)); got != w || e != api.OK {
			t.Errorf("%x: %x %d", w, got, e)
		}
	}
}

// P5.1: what is no exponent, and no mantissa.
func TestMadeWrong(t *testing.T) {
	exponents := []int{-1, -2, -2047, -2048, 2048, 2049, 4095, 1 << 31, 1 << 32, 1<<32 + 1, math.MinInt64, math.MinInt64 + 1, math.MaxInt64}
	mantissas := []uint64{1 << 52, 1<<52 + 1, 1<<53 - 1, 1 << 53, 1 << 62, 1 << 63, 1<<63 + 1, math.MaxUint64}
	wrong := func(below bool, exponent int, mantissa uint64) {
		if w, e := real.Made(below, exponent, mantissa); w != 0 || e != api.ErrArg {
			t.Errorf("%v %d %x: %x %d", below, exponent, mantissa, w, e)
		}
	}
	for _, below := range []bool{false, true} {
		for _, exponent := range exponents {
			wrong(below, exponent, 0)
			wrong(below, exponent, 1<<52-1)
			wrong(below, exponent, 1<<52)
		}
		for _, mantissa := range mantissas {
			wrong(below, 0, mantissa)
			wrong(below, 2047, mantissa)
		}
	}
}

// P5.2: words stand as the chapter says.
func TestCompare(t *testing.T) {
	rising := []uint64{
		math.MaxUint64, sign | quiet, 0xFFF0000000000001, sign | inf, sign | most, sign | one, sign | fullest, sign | small, sign | 1, sign,
		0, 1, small, fullest, one, most, inf, 0x7FF0000000000001, quiet, math.MaxInt64,
	}
	for i, a := range rising {
		for j, b := range rising {
			want := min(max(i-j, -1), 1)
			if got := real.Compare(a, b); got != want {
				t.Errorf("%x %x: %d", a, b, got)
			}
		}
	}
	for _, a := range many() {
		for _, b := range many() {
			if got := real.Compare(a, b); got != stands(a, b) {
				t.Fatalf("%x %x: %d", a, b, got)
			}
		}
	}
}

// P5.2: a test asks the numbers, of which 0 and -0 have one, and ReNaN none.
func TestTest(t *testing.T) {
	for _, a := range many() {
		for _, b := range many() {
			both := !isNone(a) && !isNone(b)
			order := 0
			if both {
				order = number(a).Cmp(number(b))
			}
			for kind, want := range map[int]bool{api.TsLess: order < 0, api.TsMore: order > 0, api.TsEqual: order == 0} {
				if got := real.Test(kind, a, b); got != (both && want) {
					t.Fatalf("%d %x %x: %v", kind, a, b, got)
				}
			}
		}
	}
}

// P5.2: kinds that are no test.
func TestNoTest(t *testing.T) {
	for _, kind := range []int{api.TsNone, -1, -2, -3, 4, 5, 255, 257, 1 << 32, 1<<32 + 1, math.MinInt64, math.MaxInt64} {
		for _, a := range edges() {
			for _, b := range edges() {
				if real.Test(kind, a, b) {
					t.Fatalf("%d %x %x", kind, a, b)
				}
			}
		}
	}
}

// P5.3: what comes next at the edges, and of what nothing does.
func TestNext(t *testing.T) {
	for w, want := range map[uint64]uint64{
		sign | inf: sign | most, sign | most: sign | (most - 1), sign | fullest: sign | small, sign | 2: sign | 1,
		sign | 1: 0, sign: 1, 0: 1, 1: 2, small: fullest, one - 1: one, one: one + 1, most: inf,
		sign | one: sign | (one - 1), sign | 0x0010000000000001: sign | fullest,
	} {
		if got, e := real.Next(w); got != want || e != api.OK {
			t.Errorf("%x: %x %d", w, got, e)
		}
	}
	if got, e := real.Next(inf); got != 0 || e != api.ErrNone {
		t.Errorf("%x %d", got, e)
	}
	for _, w := range many() {
		got, e := real.Next(w)
		if isNone(w) && (got != 0 || e != api.ErrArg) {
			t.Errorf("%x: %x %d", w, got, e)
		}
		if isNone(w) || w == inf {
			continue
		}
		if want := math.Nextafter(math.Float64frombits(w), math.Inf(1)); e != api.OK || math.Float64frombits(got) != want {
			t.Errorf("%x: %x %d", w, got, e)
		}
	}
}

// P5.4: the ends of rows, the first word of each number.
func TestEnds(t *testing.T) {
	for name, is := range map[string]struct {
		row             []uint64
		least, greatest uint64
	}{
		"one":              {[]uint64{one}, one, one},
		"rising":           {[]uint64{1, one, most}, 1, most},
		"falling":          {[]uint64{most, one, 1}, 1, most},
		"below":            {[]uint64{sign | 1, sign | one, sign | small}, sign | one, sign | 1},
		"both signs":       {[]uint64{one, sign | most, 0, sign | one, most}, sign | most, most},
		"0 first":          {[]uint64{0, sign}, 0, 0},
		"-0 first":         {[]uint64{sign, 0}, sign, sign},
		"0 above":          {[]uint64{sign | 1, 0, sign}, sign | 1, 0},
		"-0 above":         {[]uint64{sign | 1, sign, 0}, sign | 1, sign},
		"0 below":          {[]uint64{0, 1, sign}, 0, 1},
		"-0 below":         {[]uint64{1, sign, 0}, sign, 1},
		"none ahead":       {[]uint64{quiet, sign | quiet, one}, one, one},
		"none between":     {[]uint64{one, math.MaxUint64, 0, quiet}, 0, one},
		"none behind 0":    {[]uint64{0, inf + 1}, 0, 0},
		"beyond all":       {[]uint64{inf, sign | inf}, sign | inf, inf},
		"beyond, and more": {[]uint64{quiet, sign | inf, one, inf, quiet, 0, sign | inf, inf}, sign | inf, inf},
		"beyond above":     {[]uint64{inf, inf, one}, one, inf},
		"beyond below":     {[]uint64{one, sign | inf, 0}, sign | inf, one},
		"twice":            {[]uint64{one, one, 0, 0}, 0, one},
	} {
		least, greatest, e := real.Ends(is.row)
		if least != is.least || greatest != is.greatest || e != api.OK {
			t.Errorf("%s: %x %x %d", name, least, greatest, e)
		}
	}
}

// P5.4: at all rows of at most four of these words, what the chapter says of them, word by word.
func TestEndsOfAll(t *testing.T) {
	words := []uint64{sign | inf, sign | 1, sign, 0, 1, inf, quiet, math.MaxUint64}
	for n := range 5 {
		row := make([]uint64, n)
		for code := range 1 << (3 * n) {
			for at := range row {
				row[at] = words[code>>(3*at)&7]
			}
			least, greatest, e := real.Ends(row)
			wantLeast, wantGreatest, want := ends(row)
			if least != wantLeast || greatest != wantGreatest || e != want {
				t.Fatalf("%x: %x %x %d", row, least, greatest, e)
			}
		}
	}
}

// ends asks each word of all others.
func ends(row []uint64) (uint64, uint64, api.Errno) {
	first := func(order int) (uint64, bool) {
		for _, w := range row {
			if !isNone(w) && !slices.ContainsFunc(row, func(v uint64) bool {
				return !isNone(v) && number(v).Cmp(number(w)) == order
			}) {
				return w, true
			}
		}
		return 0, false
	}
	least, found := first(-1)
	greatest, _ := first(1)
	if !found {
		return 0, 0, api.ErrNone
	}
	return least, greatest, api.OK
}

// P5.4: rows of no words, and of words that have no numbers.
func TestNoEnds(t *testing.T) {
	for _, row := range [][]uint64{nil, {}, {quiet}, {inf + 1}, {math.MaxUint64, math.MaxInt64}, {sign | quiet, quiet, sign | inf | 1}} {
		if least, greatest, e := real.Ends(row); least != 0 || greatest != 0 || e != api.ErrNone {
			t.Errorf("%x: %x %x %d", row, least, greatest, e)
		}
	}
}

// P5.5: sums at the edges: from 0 on, one by one, to the nearest; none is one word.
func TestSum(t *testing.T) {
	two53 := math.Float64bits(1 << 53)
	for name, is := range map[string]struct {
		row []uint64
		sum uint64
	}{
		"of nothing":             {nil, 0},
		"of no words":            {[]uint64{}, 0},
		"0":                      {[]uint64{0}, 0},
		"-0 from 0 on":           {[]uint64{sign}, 0},
		"-0 and -0":              {[]uint64{sign, sign}, 0},
		"one":                    {[]uint64{one}, one},
		"1 and 1":                {[]uint64{one, one}, 0x4000000000000000},
		"1 and -1":               {[]uint64{one, sign | one}, 0},
		"-1 and 1":               {[]uint64{sign | one, one}, 0},
		"small":                  {[]uint64{1, small}, fullest},
		"small below":            {[]uint64{sign | 1, sign | small}, sign | fullest},
		"full less small":        {[]uint64{fullest, sign | 1}, small},
		"too small to be told":   {[]uint64{two53, one, one}, two53},
		"told if they go ahead":  {[]uint64{one, one, two53}, two53 + 1},
		"beyond by one by one":   {[]uint64{most, most, sign | most}, inf},
		"not if they fall first": {[]uint64{most, sign | most, most}, most},
		"beyond":                 {[]uint64{inf, one, inf, sign | most}, inf},
		"beyond below":           {[]uint64{sign | inf, most, sign | inf}, sign | inf},
		"most and the least":     {[]uint64{most, 1}, most},
		"both ends":              {[]uint64{inf, sign | inf}, quiet},
		"both ends back":         {[]uint64{sign | inf, inf}, quiet},
		"none, and on":           {[]uint64{inf, sign | inf, one, inf}, quiet},
		"beyond, then the other": {[]uint64{most, most, sign | inf}, quiet},
		"of none":                {[]uint64{quiet}, quiet},
		"of another none":        {[]uint64{math.MaxUint64}, quiet},
		"of the least none":      {[]uint64{inf + 1}, quiet},
		"none below":             {[]uint64{one, sign | quiet, one}, quiet},
		"none, with its bits":    {[]uint64{0x7FFFFFFFFFFFFFFF, 0xFFF0000000000001}, quiet},
	} {
		if sum := real.Sum(is.row); sum != is.sum {
			t.Errorf("%s: %x, not %x", name, sum, is.sum)
		}
	}
}

// P5.5: the sum of two is the one to no end of digits, brought to a float64.
func TestSumOfTwo(t *testing.T) {
	for _, a := range many() {
		for _, b := range many() {
			if a&inf == inf || b&inf == inf {
				continue
			}
			if sum, want := real.Sum([]uint64{a, b}), added(a, b); sum != want {
				t.Fatalf("%x %x: %x, not %x", a, b, sum, want)
			}
		}
	}
}

// P5.5: a long row is added from its beginning on.
func TestSumOfLong(t *testing.T) {
	row := make([]uint64, 1<<20)
	want := 0.0
	for at := range row {
		f := 1 / float64(at+1)
		row[at] = math.Float64bits(f)
		want += f
	}
	if sum := real.Sum(row); sum != math.Float64bits(want) {
		t.Errorf("%x, not %x", sum, math.Float64bits(want))
	}
	slices.Reverse(row)
	if sum := real.Sum(row); sum == math.Float64bits(want) {
		t.Errorf("%x either way", sum)
	}
}
