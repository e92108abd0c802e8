package real_test

import (
	"math"
	"math/big"
	"slices"

	"windrose/api"
)

const (
	sign    = 1 << 63
	inf     = 0x7FF0000000000000
	one     = 0x3FF0000000000000
	most    = 0x7FEFFFFFFFFFFFFF // the greatest number that is not beyond all
	fullest = 0x0010000000000000 // the least of ReFull
	small   = 0x000FFFFFFFFFFFFF // the greatest of ReSmall
	quiet   = 0x7FF8000000000000
)

// parted is a word, as the chapter has it, and its class.
type parted struct {
	exponent int
	mantissa uint64
	class    int
}

// named are the edges of each class, without the sign.
func named() map[uint64]parted {
	return map[uint64]parted{
		0:                  {0, 0, api.ReZero},
		1:                  {0, 1, api.ReSmall},
		2:                  {0, 2, api.ReSmall},
		0x0008000000000000: {0, 1 << 51, api.ReSmall},
		small:              {0, 1<<52 - 1, api.ReSmall},
		fullest:            {1, 0, api.ReFull},
		0x0010000000000001: {1, 1, api.ReFull},
		0x001FFFFFFFFFFFFF: {1, 1<<52 - 1, api.ReFull},
		0x0020000000000000: {2, 0, api.ReFull},
		0x3FEFFFFFFFFFFFFF: {1022, 1<<52 - 1, api.ReFull},
		one:                {1023, 0, api.ReFull},
		0x3FF0000000000001: {1023, 1, api.ReFull},
		0x4000000000000000: {1024, 0, api.ReFull},
		0x4008000000000000: {1024, 1 << 51, api.ReFull},
		0x4340000000000000: {1076, 0, api.ReFull},
		0x7FE0000000000000: {2046, 0, api.ReFull},
		most:               {2046, 1<<52 - 1, api.ReFull},
		inf:                {2047, 0, api.ReInf},
		0x7FF0000000000001: {2047, 1, api.ReNaN},
		0x7FF7FFFFFFFFFFFF: {2047, 1<<51 - 1, api.ReNaN},
		quiet:              {2047, 1 << 51, api.ReNaN},
		0x7FFFFFFFFFFFFFFF: {2047, 1<<52 - 1, api.ReNaN},
	}
}

// edges are these, of either sign, in the order of their bits.
func edges() []uint64 {
	var all []uint64
	for w := range named() {
		all = append(all, w, w|sign)
	}
	slices.Sort(all)
	return all
}

// many are the edges, and words of bits that hang together by no rule of theirs.
func many() []uint64 {
	all := edges()
	for w := range uint64(300) {
		all = append(all, (w+1)*0x9E3779B97F4A7C15)
	}
	return all
}

// isNone is the chapter's word on ReNaN, of the bits as they are written.
func isNone(w uint64) bool {
	return w&^sign > inf
}

// number is a word's number, by the chapter's rule: mantissa by mantissa, to no end of digits.
func number(w uint64) *big.Float {
	exponent, mantissa := int(w>>52&2047), w&(1<<52-1)
	n := new(big.Float).SetPrec(4000)
	switch {
	case exponent == 2047:
		n.SetInf(false)
	case exponent == 0:
		n.SetMantExp(n.SetUint64(mantissa), -1074)
	default:
		n.SetMantExp(n.SetUint64(mantissa|1<<52), exponent-1075)
	}
	if w>>63 == 1 {
		n.Neg(n)
	}
	return n
}

// stands is the chapter's word on the order.
func stands(a, b uint64) int {
	order := 0
	switch {
	case a == b:
		return 0
	case a>>63 != b>>63:
		order = int(b>>63) - int(a>>63)
	case a&math.MaxInt64 < b&math.MaxInt64:
		order = -1
	default:
		order = 1
	}
	if a>>63 == 1 && b>>63 == 1 {
		order = -order
	}
	return order
}

// added is the sum of two numbers of which neither is beyond all, to no end of digits, brought to a float64 at the end.
func added(a, b uint64) uint64 {
	sum := number(a).Add(number(a), number(b))
	if sum.Sign() == 0 {
		return 0
	}
	f, _ := sum.Float64()
	return math.Float64bits(f)
}
