package real

import (
	"math"

	"windrose/api"
)

const (
	signAt      = 63
	exponentAt  = 52
	sign        = 1 << signAt
	topExponent = 1<<(signAt-exponentAt) - 1
	topMantissa = 1<<exponentAt - 1

	allAbove = topExponent << exponentAt    // what is beyond all, above
	allBelow = sign | allAbove              // and below
	none     = allAbove | 1<<(exponentAt-1) // the one word that is told of a sum that comes to none
)

// hasNumber tells whether a word has a number.
func hasNumber(w uint64) bool {
	return Class(w) != api.ReNaN
}

// unsigned0 is w, but 0 without the sign for -0: both have one number.
func unsigned0(w uint64) uint64 {
	if w == sign {
		return 0
	}
	return w
}

// place is where a word stands among all words, in their order.
func place(w uint64) uint64 {
	if w>>signAt != 0 {
		return ^w // these stand ahead, and the other way round
	}
	return w | sign
}

// atPlace is the word that stands there.
func atPlace(at uint64) uint64 {
	if at>>signAt != 0 {
		return at &^ sign
	}
	return ^at
}

// add adds the numbers of words to a sum, one by one.
func add(sum float64, words ...uint64) float64 {
	for _, w := range words {
		sum += math.Float64frombits(w)
	}
	return sum
}

// wordOf is the word of a number; which of its words is told of none does not hang on the machine.
func wordOf(number float64) uint64 {
	if w := math.Float64bits(number); hasNumber(w) {
		return w
	}
	return none
}
