package types_test

import (
	"math"
	"math/rand"
	"slices"
	"testing"

	"windrose/api"
	"windrose/types"
)

// The chapter's examples.
func TestExamples(t *testing.T) {
	l := row(comp(2), pair(2, 7), pair(3, 7))
	want := func(name string, want []api.Id, wantErr api.Errno) func([]api.Id, api.Errno) {
		return func(got []api.Id, err api.Errno) {
			t.Helper()
			if !slices.Equal(got, want) || err != wantErr {
				t.Error(name, got, err)
			}
		}
	}
	want("Of", l, api.OK)(types.Of(pair(3, 7), comp(2), pair(2, 7), comp(2)))
	if !types.Has(l, comp(2)) || types.Has(l, comp(3)) {
		t.Error("Has")
	}
	want("With", row(comp(1), comp(2), pair(2, 7), pair(3, 7)), api.OK)(types.With(l, comp(1)))
	want("Without", row(comp(2), pair(3, 7)), api.OK)(types.Without(l, pair(2, 7)))
	want("Taken", row(pair(2, 7), pair(3, 7)), api.OK)(types.Taken(l, pair(0, 7)), api.OK)
	if got := types.Targets(l, 2); !slices.Equal(got, []int{7}) {
		t.Error("Targets", got)
	}
	want("Mentions", row(pair(3, 7)), api.OK)(types.Mentions(l, 3), api.OK)
	want("With an entity", nil, api.ErrArg)(types.With(l, entity(5, 0)))
	want("Without c3", nil, api.ErrNone)(types.Without(l, comp(3)))
	want("Meet", row(comp(2)), api.OK)(types.Meet(l, row(comp(2), comp(3))))
}

// P3.1: Check knows types from what is none.
func TestCheck(t *testing.T) {
	for name, l := range good() {
		if err := types.Check(l); err != api.OK || !isType(l) {
			t.Error(name, err)
		}
	}
	for name, l := range bad() {
		if err := types.Check(l); err != api.ErrType || isType(l) {
			t.Error(name, err)
		}
	}
	for _, l := range small() {
		want := api.ErrType
		if isType(l) {
			want = api.OK
		}
		if err := types.Check(l); err != want {
			t.Fatal(l, err)
		}
	}
}

// P3.1: Of makes a type of ids in any order, handed in however often.
func TestOf(t *testing.T) {
	r := rand.New(rand.NewSource(3))
	for name, l := range good() {
		for range 50 {
			mixed := slices.Concat(l, l)
			for range r.Intn(40) * min(1, len(l)) {
				mixed = append(mixed, l[r.Intn(len(l))])
			}
			r.Shuffle(len(mixed), func(i, j int) { mixed[i], mixed[j] = mixed[j], mixed[i] })
			if got, err := types.Of(mixed...); err != api.OK || !slices.Equal(got, l) {
				t.Fatal(name, got, err)
			}
		}
	}
	for _, l := range rows(4, things()[1:8]...) {
		want := slices.Clone(l)
		slices.Sort(want)
		want = slices.Compact(want)
		if got, err := types.Of(l...); err != api.OK || !slices.Equal(got, want) {
			t.Fatal(l, got, err)
		}
	}
}

// P3.1: of MaxType ids there is a type, however many times they come; of one more there is none.
func TestOfFull(t *testing.T) {
	many := slices.Repeat(comps(1, 12), 1000)
	if got, err := types.Of(many...); err != api.OK || !slices.Equal(got, comps(1, 12)) {
		t.Error(got, err)
	}
	for _, l := range [][]api.Id{
		comps(1, 13), comps(1, 24), pairs(1, 1, 13), append(many, comp(13)), append(row(pair(1, 1)), many...),
		append(pairs(5, 1, 12), comp(1)), pairs(2, 1, 3000),
	} {
		for range 2 {
			if got, err := types.Of(l...); err != api.ErrFull || len(got) != 0 {
				t.Error(len(l), got, err)
			}
			slices.Reverse(l)
		}
	}
}

// P3.1: what is neither a component nor a pair is ErrArg, ahead of there being too many.
func TestOfWrong(t *testing.T) {
	for _, id := range wrongIds() {
		for _, l := range [][]api.Id{nil, row(comp(1)), things(), comps(1, 12), comps(1, 13), pairs(1, 1, 100)} {
			for _, at := range []int{0, len(l) / 2, len(l)} {
				if got, err := types.Of(slices.Insert(slices.Clone(l), at, id)...); err != api.ErrArg || len(got) != 0 {
					t.Error(id, len(l), at, got, err)
				}
			}
		}
	}
}

// pick are the ids of a type that are wanted; none of what may not be.
func pick(l []api.Id, wanted func(api.Id) bool) []api.Id {
	var out []api.Id
	for _, id := range l {
		if isType(l) && wanted(id) {
			out = append(out, id)
		}
	}
	return out
}

// takes is what the chapter of ids says of a pattern, and a component or pair.
func takes(pattern, id api.Id) bool {
	if !slices.Contains(patterns(), pattern) {
		return pattern == id
	}
	r, t := parts(id)
	wantR, wantT := parts(pattern)
	return isPair(id) && (wantR == 0 || wantR == r) && (wantT == 0 || wantT == t)
}

// P3.2: Has and Taken, at all small rows, those that may not be among them.
func TestHasTaken(t *testing.T) {
	asked := append(things(), wrongIds()...)
	asked = append(asked, comp(3), pair(3, 1), pair(2, 3))
	for _, l := range append(small(), things()) {
		for _, id := range asked {
			if got := types.Has(l, id); got != (isType(l) && slices.Contains(l, id)) {
				t.Fatal(l, id, got)
			}
			want := pick(l, func(x api.Id) bool { return takes(id, x) })
			if got := types.Taken(l, id); !slices.Equal(got, want) {
				t.Fatal(l, id, got)
			}
		}
	}
}

// P3.2: Targets and Mentions, at all small rows and at indexes that no pair has.
func TestTargetsMentions(t *testing.T) {
	indexes := []int{1, 2, 3, 24, api.MaxIndex, 0, -1, api.MaxIndex + 1, 1<<30 + 1, 1<<32 + 1, math.MaxInt, math.MinInt}
	for _, l := range append(small(), things()) {
		for _, index := range indexes {
			var targets []int
			for _, id := range pick(l, isPair) {
				if r, x := parts(id); r == index {
					targets = append(targets, x)
				}
			}
			if got := types.Targets(l, index); !slices.Equal(got, targets) {
				t.Fatal(l, index, got)
			}
			mentions := pick(l, func(id api.Id) bool {
				r, x := parts(id)
				return isPair(id) && (r == index || x == index)
			})
			if got := types.Mentions(l, index); !slices.Equal(got, mentions) {
				t.Fatal(l, index, got)
			}
		}
	}
}

// P3.2: at types of MaxType, and what is longer.
func TestTellFull(t *testing.T) {
	l := pairs(7, 1, 12)
	targets := []int{1, 2, 3, 4, 5, 6, 7, 8, 9, 10, 11, 12}
	if got := types.Targets(l, 7); !slices.Equal(got, targets) {
		t.Error(got)
	}
	if got := types.Mentions(l, 7); !slices.Equal(got, l) { // 7:7 among them, once
		t.Error(got)
	}
	if got := types.Taken(l, pair(7, 0)); !slices.Equal(got, l) {
		t.Error(got)
	}
	if !types.Has(l, pair(7, 12)) || types.Has(l, pair(7, 13)) {
		t.Error("Has")
	}
}

// P3.2: of what may not be, nothing is told.
func TestTellWrong(t *testing.T) {
	for name, l := range bad() {
		for _, id := range append(slices.Clone(l), pair(0, 0), pair(2, 0), pair(0, 2)) {
			if types.Has(l, id) || len(types.Taken(l, id)) != 0 {
				t.Error(name, id)
			}
		}
		for index := range 14 {
			if len(types.Targets(l, index)) != 0 || len(types.Mentions(l, index)) != 0 {
				t.Error(name, index)
			}
		}
	}
}

// P3.3: With and Without, at all small types and all ids.
func TestWithWithout(t *testing.T) {
	for _, l := range small() {
		for _, id := range append(things(), wrongIds()...) {
			with, withErr := types.With(l, id)
			without, withoutErr := types.Without(l, id)
			wantWith, wantWithErr := slices.Clone(l), api.OK
			wantWithout, wantWithoutErr := []api.Id(nil), api.ErrNone
			switch {
			case !isType(l):
				wantWith, wantWithErr, wantWithoutErr = nil, api.ErrType, api.ErrType
			case !slices.Contains(things(), id):
				wantWith, wantWithErr = nil, api.ErrArg
			case slices.Contains(l, id):
				wantWithout, wantWithoutErr = pick(l, func(x api.Id) bool { return x != id }), api.OK
			default:
				wantWith = append(wantWith, id)
				slices.Sort(wantWith)
			}
			if !slices.Equal(with, wantWith) || withErr != wantWithErr {
				t.Fatal("With", l, id, with, withErr)
			}
			if !slices.Equal(without, wantWithout) || withoutErr != wantWithoutErr {
				t.Fatal("Without", l, id, without, withoutErr)
			}
		}
	}
}

// P3.3: a type that is full takes what it has, and nothing else; one less takes one more.
func TestWithFull(t *testing.T) {
	l := append(comps(5, 9), pairs(3, 11, 17)...)
	for at, id := range l {
		if got, err := types.With(l, id); err != api.OK || !slices.Equal(got, l) {
			t.Error(id, got, err)
		}
		less, err := types.Without(l, id)
		if err != api.OK || !slices.Equal(less, slices.Delete(slices.Clone(l), at, at+1)) {
			t.Error(id, less, err)
		}
		if got, err := types.With(less, id); err != api.OK || !slices.Equal(got, l) {
			t.Error(id, got, err)
		}
	}
	for _, id := range row(comp(1), comp(10), pair(3, 10), pair(3, 18), pair(api.MaxIndex, 1)) {
		if got, err := types.With(l, id); err != api.ErrFull || len(got) != 0 {
			t.Error(id, got, err)
		}
	}
	for _, id := range wrongIds() { // ahead of there being no room
		if got, err := types.With(l, id); err != api.ErrArg || len(got) != 0 {
			t.Error(id, got, err)
		}
	}
}

// P3.3, P3.4: ErrType goes ahead of all else.
func TestWrongType(t *testing.T) {
	for name, l := range bad() {
		for _, id := range append(slices.Clone(l[:min(len(l), 20)]), comp(24), pair(3, 3), 0, entity(1, 0)) {
			if got, err := types.With(l, id); err != api.ErrType || len(got) != 0 {
				t.Error(name, "With", id, got, err)
			}
			if got, err := types.Without(l, id); err != api.ErrType || len(got) != 0 {
				t.Error(name, "Without", id, got, err)
			}
		}
		for _, other := range [][]api.Id{nil, l, comps(1, 12), row(comp(2), pair(2, 2))} {
			if got, err := types.Meet(l, other); err != api.ErrType || len(got) != 0 {
				t.Error(name, "Meet", got, err)
			}
			if got, err := types.Meet(other, l); err != api.ErrType || len(got) != 0 {
				t.Error(name, "Meet", got, err)
			}
		}
	}
}

// P3.4: Meet, of any two types, from either side.
func TestMeet(t *testing.T) {
	all := [][]api.Id{comps(1, 12), comps(12, 23), comps(13, 24), things()}
	for _, l := range rows(3, things()...) {
		if isType(l) {
			all = append(all, l)
		}
	}
	for _, a := range all {
		for _, b := range all {
			want := pick(a, func(id api.Id) bool { return slices.Contains(b, id) })
			if got, err := types.Meet(a, b); err != api.OK || !slices.Equal(got, want) {
				t.Fatal(a, b, got, err)
			}
		}
	}
}

// compare is what the chapter says of two rows, id by id.
func compare(a, b []api.Id) int {
	for i := 0; ; i++ {
		switch {
		case i == len(a) && i == len(b):
			return 0
		case i == len(a):
			return -1
		case i == len(b):
			return 1
		case a[i] < b[i]:
			return -1
		case a[i] > b[i]:
			return 1
		}
	}
}

// P3.4: Compare, of any two rows, whatever is in them.
func TestCompare(t *testing.T) {
	all := rows(3, 0, 1, 1<<32, comp(1), pair(1, 1), pair(0, 1), 1<<63-1, math.MaxUint64)
	all = append(all, []api.Id{}, comps(1, 12), comps(1, 13), comps(1, 24), append(comps(1, 23), comp(23)))
	for _, a := range all {
		for _, b := range all {
			if got := types.Compare(a, b); got != compare(a, b) {
				t.Fatal(a, b, got)
			}
		}
	}
	long := pairs(9, 1, 5000)
	if types.Compare(long, long[:4999]) != 1 || types.Compare(long[:4999], long) != -1 || types.Compare(long, slices.Clone(long)) != 0 {
		t.Error("long rows")
	}
}
