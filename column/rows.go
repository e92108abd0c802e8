package column

import (
	"iter"

	"windrose/api"
)

// guarded is what something comes to that is done to columns, if all of them may be.
func guarded[T any](does func() (T, api.Errno), l ...api.Column) (T, api.Errno) {
	if !mayBe(l...) {
		var none T
		return none, api.ErrColumn
	}
	return does()
}

// mayBe tells whether all of these may be.
func mayBe(l ...api.Column) bool {
	good := 0
checking:
	for _, c := range l {
		switch {
		// What is multiplied is asked first: it could wrap round to as many words as there are.
		case !isWidth(c.Width), c.Rows < 0, c.Rows > api.MaxIndex, len(c.Words) != c.Width*c.Rows:
			break checking
		}
		good++
	}
	return good == len(l)
}

// isWidth tells whether values may have so many words.
func isWidth(n int) bool {
	return n >= 0 && n <= api.MaxWidth
}

func hasRow(c api.Column, row int) bool {
	return row >= 0 && row < c.Rows
}

// hasRoom tells whether so many rows may come to those that there are.
func hasRoom(c api.Column, more int) bool {
	return more <= api.MaxIndex-c.Rows
}

// fit tells whether all of these are as wide as the column.
func fit(c api.Column, l ...api.Value) bool {
	for _, v := range l {
		if len(v) != c.Width {
			return false
		}
	}
	return true
}

// cut are the words of the rows from one to just ahead of another, in the column's own memory.
func cut(c api.Column, from, end int) api.Value {
	return c.Words[from*c.Width : end*c.Width : end*c.Width]
}

// rows tells the words of each row, in the column's own memory.
func rows(c api.Column) iter.Seq[api.Value] {
	return func(yield func(api.Value) bool) {
		for row := range c.Rows {
			if !yield(cut(c, row, row+1)) {
				return
			}
		}
	}
}

// joined is these rows, one behind the other, in memory of its own.
func joined[S ~[]E, E any](first S, more ...S) S {
	long := len(first)
	for _, l := range more {
		long += len(l)
	}
	all := make(S, long)
	end := copy(all, first)
	for _, l := range more {
		end += copy(all[end:], l)
	}
	return all
}

// laid is a column of so many rows, whose words are these, one behind the other.
func laid(width, many int, first api.Value, more ...api.Value) api.Column {
	return api.Column{Width: width, Rows: many, Words: joined(first, more...)}
}

func pushed(c api.Column, l ...api.Value) api.Column {
	return laid(c.Width, c.Rows+len(l), c.Words, l...)
}

// swappedOut is the column in which the last row stands in the place of that one. If it is the last one itself, there is nothing to put there.
func swappedOut(c api.Column, row int) api.Column {
	last := c.Rows - 1
	if row == last {
		return laid(c.Width, last, cut(c, 0, last))
	}
	return laid(c.Width, last, cut(c, 0, row), cut(c, last, c.Rows), cut(c, row+1, last))
}
