package ident

import (
	"strconv"

	"windrose/api"
)

// Text tells an id as text: e, index, dot, generation; c, number; p, relation, colon, target.
func Text(id api.Id) (string, api.Errno) {
	first, second := Parts(id)
	switch Kind(id) {
	case api.IdEntity:
		return "e" + strconv.Itoa(first) + "." + strconv.Itoa(second), api.OK
	case api.IdComponent:
		return "c" + strconv.Itoa(first), api.OK
	case api.IdPair, api.IdPattern:
		return "p" + part(first) + ":" + part(second), api.OK
	}
	return "", api.ErrId
}

// part is the text of an index in a pair, or in a pattern, where 0 is any.
func part(index int) string {
	if index == 0 {
		return "*"
	}
	return strconv.Itoa(index)
}

// Read tells the id that has this text.
func Read(s string) (api.Id, api.Errno) {
	id := guess(s)
	// An id has one text alone: whatever the guess let pass (noughts ahead, parts left out, 0 for any) differs from it here.
	if text, e := Text(id); e != api.OK || text != s {
		return 0, api.ErrId
	}
	return id, api.OK
}

// guess is the id whose text s is, if it is one's; else some id, or 0.
func guess(s string) api.Id {
	kinds := letters()
	kind, place := api.IdNone, 0
	var numbers [2]int
reading:
	for at, r := range s {
		switch {
		case at == 0:
			kind = kinds[r]
			if kind == api.IdNone {
				break reading
			}
		case r >= '0' && r <= '9':
			numbers[place] = 10*numbers[place] + int(r-'0')
			if numbers[place] > api.MaxIndex { // no part is as great; left here, it never wraps round
				break reading
			}
		case place == 0 && (r == '.' || r == ':'):
			place = 1
		case r != '*': // any is 0, which a number that is not there is, too
			break reading
		}
	}
	return made(kind, numbers)
}

// letters are the kinds that the first letters of texts make.
func letters() map[rune]int {
	return map[rune]int{
		'e': api.IdEntity,
		'c': api.IdComponent,
		'p': api.IdPair,
	}
}

// made is the id of a kind, of its parts; 0, if there is none.
func made(kind int, parts [2]int) api.Id {
	id := api.Id(0)
	switch kind {
	case api.IdEntity:
		id, _ = Entity(parts[0], parts[1])
	case api.IdComponent:
		id, _ = Component(parts[0])
	case api.IdPair:
		id, _ = Pair(parts[0], parts[1])
	}
	return id
}
