package path

import (
	"slices"
	"strings"

	"kilnfield/api"
)

const (
	anyLetters = "*"
	anyParts   = "**"
)

// CheckPattern tells a pattern that is none also to those who have no path at hand.
func CheckPattern(pattern string) error {
	if !allParts(pattern, isPatternName) {
		return api.ErrName
	}
	return nil
}

// Match a pattern.
func Match(pattern, s string) (bool, error) {
	if err := CheckPattern(pattern); err != nil {
		return false, err
	}
	if err := Check(s); err != nil {
		return false, err
	}
	return fitParts(slices.Collect(parts(pattern)), slices.Collect(parts(s))), nil
}

// isPatternName: is a part a name, perhaps with stars? (Stars alone, also two of them, are as a name is.)
func isPatternName(part string) bool {
	return madeOf(part, func(r rune) bool { return r == '*' || isLetter(r) })
}

// fitParts: do a path's names fit a pattern's? (MaxParts keeps the tries few.)
func fitParts(pattern, names []string) bool {
	if len(pattern) == 0 {
		return len(names) == 0
	}
	if pattern[0] == anyParts {
		return fitParts(pattern[1:], names) || len(names) > 0 && fitParts(pattern, names[1:])
	}
	return len(names) > 0 && fitName(pattern[0], names[0]) && fitParts(pattern[1:], names[1:])
}

// fitName: does a name fit? Each piece between stars is taken where it is found first: that leaves the most to those behind it, so no other place need be tried.
func fitName(pattern, name string) bool {
	first, behind, star := strings.Cut(pattern, anyLetters)
	if !star {
		return pattern == name
	}
	rest, ok := strings.CutPrefix(name, first)
	if !ok {
		return false
	}
	pieces := strings.Split(behind, anyLetters)
	last := len(pieces) - 1
	for _, piece := range pieces[:last] {
		_, rest, ok = strings.Cut(rest, piece)
		if !ok {
			return false
		}
	}
	return strings.HasSuffix(rest, pieces[last])
}
