package path

import (
	"iter"
	"strings"

	"kilnfield/api"
)

const (
	separator = "/"
	here      = "."
	up        = ".."
)

// parts of a text, one by one, so that who looks at a long text may stop early.
func parts(s string) iter.Seq[string] {
	return func(yield func(string) bool) {
		rest, more := s, true
		for more {
			var part string
			part, rest, more = strings.Cut(rest, separator)
			if !yield(part) {
				return
			}
		}
	}
}

// allParts: are there no more parts than a path may have, and is each one well?
func allParts(s string, well func(part string) bool) bool {
	many := 0
	for part := range parts(s) {
		many++
		if many > api.MaxParts || !well(part) {
			return false
		}
	}
	return true
}

// isName: is a part a name?
func isName(part string) bool { return madeOf(part, isLetter) }

// madeOf: has a part a name's length, all its letters of one kind, and no meaning of its own?
func madeOf(part string, kind func(r rune) bool) bool {
	if part == "" || len(part) > api.MaxName || part == here || part == up {
		return false
	}
	return !strings.ContainsFunc(part, func(r rune) bool { return !kind(r) })
}

// isLetter: may it stand in a name?
func isLetter(r rune) bool {
	switch r {
	case '-', '.', '_':
		return true
	}
	return 'a' <= r && r <= 'z' || '0' <= r && r <= '9'
}
