// Package path: paths: see ../shared/doc/01-path.md.
package path

import (
	"strings"

	"kilnfield/api"
)

// maxClean bounds a text that is to be cleaned: it may be longer than a path, since parts go.
const maxClean = 200

// Check a path.
func Check(s string) error {
	if !allParts(s, isName) {
		return api.ErrName
	}
	return nil
}

// Clean a text.
func Clean(s string) (string, error) {
	if len(s) > maxClean {
		return "", api.ErrBound
	}
	left, ok := leftParts(s)
	if !ok {
		return "", api.ErrShape
	}
	if len(left) == 0 {
		return "", api.ErrNone
	}
	clean := strings.Join(left, separator)
	if err := Check(clean); err != nil {
		return "", err
	}
	return clean, nil
}

// Join two texts.
func Join(a, b string) (string, error) { return Clean(a + separator + b) }

// Dir of a path.
func Dir(s string) string {
	dir, _ := split(s)
	return dir
}

// Last part of a path.
func Last(s string) string {
	_, last := split(s)
	return last
}

// leftParts are those that stay of a text; false: a part is missing ahead of a step up.
func leftParts(s string) ([]string, bool) {
	var left []string
	for part := range parts(s) {
		switch part {
		case "", here:
		case up:
			if len(left) == 0 {
				return nil, false
			}
			left = left[:len(left)-1]
		default:
			left = append(left, part)
		}
	}
	return left, true
}

// split a path at its last separator; both are empty of what is no path.
func split(s string) (dir, last string) {
	if Check(s) != nil {
		return "", ""
	}
	i := strings.LastIndex(s, separator)
	if i < 0 {
		return "", s
	}
	return s[:i], s[i+len(separator):]
}
