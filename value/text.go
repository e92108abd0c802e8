package value

import (
	"iter"
	"strconv"
	"strings"

	"windrose/api"
)

const (
	noWords = "-" // the text of no words
	between = "," // what stands between two words

	base      = 16
	digitBits = 4
	mostLong  = 64 / digitBits // how many digits a word has at most
)

// Text tells a value as text: its words to the base 16, a comma between each two.
func Text(v api.Value) (string, api.Errno) {
	if !mayBe(v) {
		return "", api.ErrValue
	}
	if len(v) == 0 {
		return noWords, api.OK
	}
	s := ""
	for text := range texts(v) {
		if s != "" {
			s += between
		}
		s += text
	}
	return s, api.OK
}

// texts tells the text of each word.
func texts(v api.Value) iter.Seq[string] {
	return func(yield func(string) bool) {
		for _, word := range v {
			if !yield(strconv.FormatUint(word, base)) {
				return
			}
		}
	}
}

// Read tells the value that has this text.
func Read(s string) (api.Value, api.Errno) {
	if s == noWords {
		return nil, api.OK
	}
	var v api.Value
	for word, good := range words(s) {
		if !good || len(v) == api.MaxWidth {
			return nil, api.ErrValue
		}
		v = put(v, word)
	}
	return v, api.OK
}

// words tells the words of a text, each with whether what stands there is a word's text.
func words(s string) iter.Seq2[uint64, bool] {
	return func(yield func(uint64, bool) bool) {
		rest, more := s, true
		for more {
			part := ""
			part, rest, more = strings.Cut(rest, between)
			if !yield(readWord(part)) {
				return
			}
		}
	}
}

// readWord is the word that has this text, and whether there is one.
func readWord(s string) (uint64, bool) {
	// As long as this the digits never wrap round.
	if len(s) == 0 || len(s) > mostLong || len(s) > 1 && s[0] == '0' {
		return 0, false
	}
	word := uint64(0)
	for _, r := range s {
		digit, good := readDigit(r)
		if !good {
			return 0, false
		}
		word = word<<digitBits | digit
	}
	return word, true
}

// readDigit is the number of a digit, and whether it is one.
func readDigit(r rune) (uint64, bool) {
	switch {
	case r >= '0' && r <= '9':
		return uint64(r - '0'), true
	case r >= 'a' && r <= 'f':
		return uint64(r-'a') + 10, true
	}
	return 0, false
}
