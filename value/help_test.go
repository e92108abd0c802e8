package value_test

import (
	"math"
	"slices"

	"windrose/api"
)

const greatest = math.MaxUint64

func val(words ...uint64) api.Value { return words }

// edges are words: the least, the greatest, and those where a digit, a sign or a float would go wrong.
func edges() []uint64 {
	return []uint64{0, 1, 9, 10, 15, 16, 255, 256, 1 << 32, 1 << 53, 1<<53 + 1, math.MaxInt64, 1 << 63, greatest - 1, greatest}
}

// rows are all rows of at most that many of the words.
func rows(most int, words ...uint64) []api.Value {
	all := []api.Value{nil}
	for from := 0; most > 0; most-- {
		longest := all[from:]
		from = len(all)
		for _, v := range longest {
			for _, w := range words {
				all = append(all, append(slices.Clone(v), w))
			}
		}
	}
	return all
}

// some are values: none, of each width, of each edge, rows that are how longer ones begin among them.
func some() []api.Value {
	all := append(rows(4, 0, 1, greatest), rows(2, edges()...)...)
	return append(all, api.Value{}, val(0x123456789abcdef0, 0xfedcba987654321), val(1<<63, 0, 1<<63, 10), val(16, 0, 0, 16))
}

// tooLong are rows that are no values.
func tooLong() []api.Value {
	return []api.Value{
		make(api.Value, 5), val(1, 2, 3, 4, 5), val(1, 2, 3, 4, 6), val(0, 0, 0, 0, 1), val(greatest, greatest, greatest, greatest, greatest),
		make(api.Value, 6), make(api.Value, 8), make(api.Value, 256), make(api.Value, 65536), make(api.Value, 100003),
	}
}

// isSame is what the chapter says, word by word.
func isSame(a, b api.Value) bool {
	for at := range max(len(a), len(b)) {
		if at >= len(a) || at >= len(b) || a[at] != b[at] {
			return false
		}
	}
	return true
}

// stands is the chapter's word on the order: the first word that is another one; if there is none, fewer words.
func stands(a, b api.Value) int {
	switch {
	case len(a) == 0 && len(b) == 0:
		return 0
	case len(a) == 0:
		return -1
	case len(b) == 0:
		return 1
	case a[0] < b[0]:
		return -1
	case a[0] > b[0]:
		return 1
	}
	return stands(a[1:], b[1:])
}

// good are widths that may be.
func good() map[string]api.Widths {
	rising := api.Widths{}
	for at := range rising {
		rising[at] = at % (api.MaxWidth + 1)
	}
	return map[string]api.Widths{
		"all 0":        {},
		"all greatest": all(api.MaxWidth),
		"all 1":        all(1),
		"rising":       rising,
		"first alone":  {0: 4},
		"last alone":   {23: 4},
		"first not":    {0: 0, 1: 3, 23: 2},
	}
}

// all is one width for every component.
func all(n int) api.Widths {
	w := api.Widths{}
	for at := range w {
		w[at] = n
	}
	return w
}

// wrongNumbers are no widths.
func wrongNumbers() []int {
	return []int{-1, -2, -4, -5, math.MinInt, math.MinInt + 1, 5, 6, 8, 64, 256, 1 << 32, 1<<32 + 1, math.MaxInt}
}

// wrongComponents are numbers of no component.
func wrongComponents() []int {
	return []int{0, -1, -24, math.MinInt, 25, 26, 48, 256, 1 << 32, 1<<32 + 1, math.MaxInt}
}
