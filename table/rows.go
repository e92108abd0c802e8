package table

import (
	"iter"
	"slices"

	"windrose/api"
	"windrose/column"
	"windrose/ident"
	"windrose/types"
)

// A word of those that were met says as many indexes.
const wordBits = 64

// guarded is what something comes to that is done to a table, if that may be.
func guarded[T any](t api.Table, does func() (T, api.Errno)) (T, api.Errno) {
	if !mayBe(t) {
		var none T
		return none, api.ErrTable
	}
	return does()
}

// mayBe tells whether the table may be.
func mayBe(t api.Table) bool {
	return types.Check(t.Type) == api.OK && len(t.Columns) == len(t.Type) &&
		columnsMayBe(t.Columns, len(t.Entities)) && entitiesMayBe(t.Entities)
}

// columnsMayBe tells whether these may be the columns of a table of so many rows.
func columnsMayBe(l []api.Column, many int) bool {
	for _, c := range l {
		if c.Rows != many || column.Check(c) != api.OK {
			return false
		}
	}
	return true
}

// entitiesMayBe tells whether all are entities, no two of one index.
func entitiesMayBe(l []api.Id) bool {
	good := 0
	// Those that were met stand close to one another, many in one word: each call asks this of all rows.
	met := make(map[int]uint64)
checking:
	for _, index := range rows(l) {
		block, bit := index/wordBits, uint64(1)<<(index%wordBits)
		switch {
		case index == 0, met[block]&bit != 0:
			break checking
		}
		met[block] |= bit
		good++
	}
	return good == len(l)
}

// rows tells each row, and the index of its entity; 0, if that is none.
func rows(entities []api.Id) iter.Seq2[int, int] {
	return func(yield func(int, int) bool) {
		for row, entity := range entities {
			if !yield(row, indexOf(entity)) {
				return
			}
		}
	}
}

// indexOf is the index of an entity; 0, if it is none.
func indexOf(entity api.Id) int {
	if ident.Kind(entity) != api.IdEntity {
		return 0
	}
	index, _ := ident.Parts(entity)
	return index
}

func hasRow(t api.Table, row int) bool {
	return row >= 0 && row < len(t.Entities)
}

// hasIndex tells whether a row's entity is of that index, of whichever generation.
func hasIndex(t api.Table, wanted int) bool {
	for _, index := range rows(t.Entities) {
		if index == wanted {
			return true
		}
	}
	return false
}

// find tells which column has the id's values, if there is such a row.
func find(t api.Table, row int, id api.Id) (int, api.Errno) {
	if !hasRow(t, row) {
		return 0, api.ErrArg
	}
	place := slices.Index(t.Type, id)
	if place < 0 {
		return 0, api.ErrNone
	}
	return place, api.OK
}

// each is what comes of all of these, in order; if something goes wrong with one, the error of the first such one.
func each[A, B any](l []A, does func(at int, a A) (B, api.Errno)) ([]B, api.Errno) {
	all := make([]B, 0, len(l))
	for at, a := range l {
		b, err := does(at, a)
		if err != api.OK {
			return nil, err
		}
		all = append(all, b)
	}
	return all, api.OK
}

// changed is the table of these entities, all columns changed at once. The entities are memory of its own by then.
func changed(t api.Table, entities []api.Id, change func(at int, c api.Column) (api.Column, api.Errno)) (api.Table, api.Errno) {
	columns, err := each(t.Columns, change)
	if err != api.OK {
		return api.Table{}, err
	}
	return api.Table{Type: slices.Clone(t.Type), Columns: columns, Entities: entities}, api.OK
}

// with is the entities, and one more behind them, in memory of its own.
func with(l []api.Id, entity api.Id) []api.Id {
	all := make([]api.Id, len(l)+1)
	all[copy(all, l)] = entity
	return all
}

// swappedOut is the entities, the last one in the place of the one that goes, and who that is; 0, if the last one itself goes.
func swappedOut(l []api.Id, row int) ([]api.Id, api.Id) {
	last := len(l) - 1
	rest := slices.Clone(l[:last])
	if row == last {
		return rest, 0
	}
	rest[row] = l[last]
	return rest, l[last]
}
