package record

import (
	"iter"
	"slices"

	"windrose/api"
)

// guarded is what something comes to that is done to records, if they may be; it is told who stands where.
func guarded[T any](r api.Records, does func(who map[api.Spot]int) (T, api.Errno)) (T, api.Errno) {
	who, good := whoStands(r)
	if !good {
		var none T
		return none, api.ErrRecord
	}
	return does(who)
}

// whoStands tells which index stands at each spot that is taken, and whether the records may be.
func whoStands(r api.Records) (map[api.Spot]int, bool) {
	many := len(r.Spots)
	if many > api.MaxIndex || many > 0 && r.Spots[many-1] == (api.Spot{}) {
		return nil, false
	}
	// Of many spots but few may be taken: only these need room.
	taken, good := count(r), 0
	who := make(map[api.Spot]int, taken)
searching:
	for index, s := range placed(r) {
		who[s] = index
		switch {
		// One who stands where another does adds nothing to who stands where.
		case !isPlace(s), len(who) == good:
			break searching
		}
		good++
	}
	return who, good == taken
}

// placed tells each index that does not stand nowhere, and its spot.
func placed(r api.Records) iter.Seq2[int, api.Spot] {
	return func(yield func(int, api.Spot) bool) {
		for at, s := range r.Spots {
			if s != (api.Spot{}) && !yield(at+1, s) {
				return
			}
		}
	}
}

// count is how many do not stand nowhere.
func count(r api.Records) int {
	many := 0
	for range placed(r) {
		many++
	}
	return many
}

// isPlace tells whether one can stand there: at a spot that is not nowhere.
func isPlace(s api.Spot) bool {
	return s.Table >= 1 && s.Table <= api.MaxTable && s.Row >= 0 && s.Row <= api.MaxIndex
}

// find tells where an index stands, if it stands anywhere.
func find(r api.Records, index int) (api.Spot, api.Errno) {
	if index < 1 || index > len(r.Spots) || r.Spots[index-1] == (api.Spot{}) {
		return api.Spot{}, api.ErrNone
	}
	return r.Spots[index-1], api.OK
}

// hasAbove tells whether somebody stands in a row of that table above another one.
func hasAbove(r api.Records, table, row int) bool {
	for _, s := range placed(r) {
		if s.Table == table && s.Row > row {
			return true
		}
	}
	return false
}

// inOrder are the indexes that stand in a table, by their rows.
func inOrder(r api.Records, table int) []int {
	var l []int
	for index, s := range placed(r) {
		if s.Table == table {
			l = append(l, index)
		}
	}
	slices.SortFunc(l, func(a, b int) int {
		return r.Spots[a-1].Row - r.Spots[b-1].Row
	})
	return l
}

// changed is the records, changed in memory of its own that has room for that index.
func changed(r api.Records, index int, change func(l []api.Spot)) api.Records {
	l := make([]api.Spot, max(len(r.Spots), index))
	copy(l, r.Spots)
	change(l)
	return api.Records{Spots: cut(l)}
}

// cut is the spots up to the last one that is not nowhere.
func cut(l []api.Spot) []api.Spot {
	end := len(l)
	for end > 0 && l[end-1] == (api.Spot{}) {
		end--
	}
	return l[:end:end]
}
