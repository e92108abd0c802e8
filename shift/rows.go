package shift

import (
	"iter"
	"slices"

	"windrose/api"
	"windrose/column"
	"windrose/table"
)

// guarded is what something comes to that is done to two tables, if both may be.
func guarded[T any](from, to api.Table, does func() (T, api.Errno)) (T, api.Errno) {
	if table.Check(from) != api.OK || table.Check(to) != api.OK {
		var none T
		return none, api.ErrTable
	}
	return does()
}

// moved is what comes of moving one row; both tables may be.
func moved(from, to api.Table, row int) (api.Moved, api.Errno) {
	if row < 0 || row >= len(from.Entities) {
		return api.Moved{}, api.ErrArg
	}
	l, err := carried(from, to, row)
	if err != api.OK {
		return api.Moved{}, err
	}
	next, err := table.Push(to, from.Entities[row], l)
	if err != api.OK {
		return api.Moved{}, err
	}
	rest, who, err := table.Swap(from, row)
	return api.Moved{From: rest, To: next, Row: len(to.Entities), Who: who}, err
}

// movedAll is what comes of moving rows, one by one; both tables may be.
func movedAll(from, to api.Table, l ...int) (api.Moved, api.Errno) {
	// Without rows the tables are answered as they are, but in memory of their own.
	both, fault := api.Moved{From: copied(from), To: copied(to)}, api.OK
moving:
	for _, row := range l {
		next, err := moved(both.From, both.To, row)
		switch err {
		case api.OK:
			both = next
		default:
			both, fault = api.Moved{}, err
			break moving
		}
	}
	return both, fault
}

// carried are the values with which a row of one table comes to another one.
func carried(from, to api.Table, row int) ([]api.Value, api.Errno) {
	carry := carrier(from, row)
	l := make([]api.Value, 0, len(to.Columns))
	for id, c := range columns(to) {
		v, err := carry(id, c.Width)
		if err != api.OK {
			return nil, err
		}
		l = append(l, v)
	}
	return l, api.OK
}

// carrier tells the value that a row brings along for an id; of words that are 0, if its table has not the id.
func carrier(from api.Table, row int) func(id api.Id, width int) (api.Value, api.Errno) {
	stands := places(from.Type)
	return func(id api.Id, width int) (api.Value, api.Errno) {
		place, there := stands[id]
		switch {
		case !there:
			return make(api.Value, width), api.OK
		case from.Columns[place].Width != width:
			return nil, api.ErrWidth
		}
		return column.Get(from.Columns[place], row)
	}
}

// columns tells each id of a table, and its column.
func columns(t api.Table) iter.Seq2[api.Id, api.Column] {
	return func(yield func(api.Id, api.Column) bool) {
		for place, id := range t.Type {
			if !yield(id, t.Columns[place]) {
				return
			}
		}
	}
}

// places tells where each one of a row stands.
func places[T comparable](l []T) map[T]int {
	stands := make(map[T]int, len(l))
	for place, one := range l {
		stands[one] = place
	}
	return stands
}

// lacked are those of one row that another one has not, in order.
func lacked[T comparable](l, other []T) []T {
	stands := places(other)
	return slices.DeleteFunc(slices.Clone(l), func(one T) bool {
		_, there := stands[one]
		return there
	})
}

// copied is the table in memory of its own.
func copied(t api.Table) api.Table {
	all := make([]api.Column, 0, len(t.Columns))
	for _, c := range columns(t) {
		// Of nothing pushed comes a column of its own memory.
		own, _ := column.Push(c)
		all = append(all, own)
	}
	return api.Table{Type: slices.Clone(t.Type), Columns: all, Entities: slices.Clone(t.Entities)}
}
