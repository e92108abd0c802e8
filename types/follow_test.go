package types_test

import (
	"slices"
	"testing"

	"windrose/api"
	"windrose/types"
)

// several are types of what may meet and mention one another.
func several() [][]api.Id {
	var all [][]api.Id
	for _, l := range rows(4, things()...) {
		if isType(l) {
			all = append(all, l)
		}
	}
	for _, l := range good() {
		all = append(all, l)
	}
	return all
}

// P3.5: with an id, and without it again, a type is as it was; and what comes may be.
func TestThereAndBack(t *testing.T) {
	for _, l := range several() {
		for _, id := range things() {
			if slices.Contains(l, id) || len(l) == api.MaxType {
				continue
			}
			with, err := types.With(l, id)
			if err != api.OK || types.Check(with) != api.OK || !types.Has(with, id) || len(with) != len(l)+1 {
				t.Fatal(l, id, with, err)
			}
			back, err := types.Without(with, id)
			if err != api.OK || types.Check(back) != api.OK || !slices.Equal(back, l) {
				t.Fatal(l, id, back, err)
			}
		}
	}
}

// orders are all orders of a row.
func orders(l []api.Id) [][]api.Id {
	if len(l) == 0 {
		return [][]api.Id{nil}
	}
	var all [][]api.Id
	for i, id := range l {
		for _, rest := range orders(slices.Delete(slices.Clone(l), i, i+1)) {
			all = append(all, append(row(id), rest...))
		}
	}
	return all
}

// P3.5: Of in whatever order is the same.
func TestOfOrders(t *testing.T) {
	l := row(comp(2), comp(24), pair(1, 1), pair(1, 2), pair(2, 1), pair(api.MaxIndex, 1))
	for _, mixed := range orders(l) {
		if got, err := types.Of(mixed...); err != api.OK || !slices.Equal(got, l) {
			t.Fatal(mixed, got, err)
		}
	}
}

// P3.5: any and any takes the pairs; what is mentioned is what one of two patterns takes.
func TestTakenFollows(t *testing.T) {
	for _, l := range several() {
		var pairs []api.Id
		for _, id := range l {
			if id >= pair(1, 1) {
				pairs = append(pairs, id)
			}
		}
		if got := types.Taken(l, pair(0, 0)); !slices.Equal(got, pairs) {
			t.Fatal(l, got)
		}
		for _, index := range []int{1, 2, 3, 5, 7, 12, api.MaxIndex} {
			either, err := types.Of(append(types.Taken(l, pair(index, 0)), types.Taken(l, pair(0, index))...)...)
			if got := types.Mentions(l, index); err != api.OK || !slices.Equal(got, either) {
				t.Fatal(l, index, got, either)
			}
			for _, target := range types.Targets(l, index) {
				if !types.Has(l, pair(index, target)) {
					t.Fatal(l, index, target)
				}
			}
		}
	}
}

// P3.5: what both have is in both, and may be.
func TestMeetFollows(t *testing.T) {
	all := several()
	for i, a := range all {
		for _, b := range all[i%7:] {
			met, err := types.Meet(a, b)
			if err != api.OK || types.Check(met) != api.OK {
				t.Fatal(a, b, met, err)
			}
			for _, id := range met {
				if !slices.Contains(a, id) || !slices.Contains(b, id) {
					t.Fatal(a, b, id)
				}
			}
		}
	}
}

// R3: what is handed in stays as it is, the room behind it, too; what is answered is new memory.
func TestMemory(t *testing.T) {
	behind := row(pair(9, 9), comp(1), 77, 78)
	start := func() []api.Id {
		return append(row(comp(2), comp(5), pair(2, 2), pair(2, 7), pair(3, 7)), behind...)[:5]
	}
	first := func(l []api.Id, _ api.Errno) []api.Id { return l }
	calls := map[string]func(l []api.Id) []api.Id{
		"Of":                 func(l []api.Id) []api.Id { return first(types.Of(l...)) },
		"Of, mixed":          func(l []api.Id) []api.Id { slices.Reverse(l); defer slices.Reverse(l); return first(types.Of(l...)) },
		"With, first":        func(l []api.Id) []api.Id { return first(types.With(l, comp(1))) },
		"With, between":      func(l []api.Id) []api.Id { return first(types.With(l, pair(2, 3))) },
		"With, last":         func(l []api.Id) []api.Id { return first(types.With(l, pair(4, 1))) },
		"With, what it has":  func(l []api.Id) []api.Id { return first(types.With(l, pair(2, 7))) },
		"With, wrong":        func(l []api.Id) []api.Id { return first(types.With(l, 0)) },
		"Without, first":     func(l []api.Id) []api.Id { return first(types.Without(l, comp(2))) },
		"Without, between":   func(l []api.Id) []api.Id { return first(types.Without(l, pair(2, 2))) },
		"Without, last":      func(l []api.Id) []api.Id { return first(types.Without(l, pair(3, 7))) },
		"Without, none":      func(l []api.Id) []api.Id { return first(types.Without(l, pair(3, 8))) },
		"Taken":              func(l []api.Id) []api.Id { return types.Taken(l, pair(0, 0)) },
		"Taken, one":         func(l []api.Id) []api.Id { return types.Taken(l, comp(2)) },
		"Mentions":           func(l []api.Id) []api.Id { return types.Mentions(l, 2) },
		"Meet, itself":       func(l []api.Id) []api.Id { return first(types.Meet(l, l)) },
		"Meet, how it began": func(l []api.Id) []api.Id { return first(types.Meet(l[:2], l)) },
		"Meet, from behind":  func(l []api.Id) []api.Id { return first(types.Meet(row(comp(2), pair(3, 7)), l)) },
		"tell": func(l []api.Id) []api.Id {
			types.Check(l)
			types.Has(l, comp(2))
			types.Targets(l, 2)
			types.Compare(l, l)
			return nil
		},
	}
	for name, call := range calls {
		l := start()
		got := call(l)
		if !slices.Equal(l[:9], start()[:9]) {
			t.Error(name, "changed", l[:9])
		}
		kept := slices.Clone(got)
		clear(l[:9])
		if !slices.Equal(got, kept) {
			t.Error(name, "hangs on what was handed in", got)
		}
		l = start()
		got = call(l)
		clear(got[:cap(got)])
		if !slices.Equal(l[:9], start()[:9]) {
			t.Error(name, "hands out what was handed in", l[:9])
		}
	}
}
