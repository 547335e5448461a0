package tree

import (
	"strconv"
	"strings"

	"kilnfield/api"
	"kilnfield/number"
)

const (
	blank     = " "
	lineBreak = "\n"
	maxDigits = 4 // of a number in a text
)

// entry is a file as a text tells it, well or not.
type entry struct{ path, bytes string }

// Text of a tree.
func (t *Tree) Text() string {
	var b strings.Builder
	for _, p := range t.Paths() {
		bytes, _ := t.Get(p)
		b.WriteString(p + blank + strconv.Itoa(len(bytes)) + lineBreak + bytes + lineBreak)
	}
	return b.String()
}

// Read a tree. All entries are read ahead of the first Put, and put ahead of a look at their order: so the errors come as the document ranks them.
func Read(s string) (*Tree, error) {
	entries, ok := readEntries(s)
	if !ok {
		return nil, api.ErrText
	}
	t := New()
	for _, e := range entries {
		if err := t.Put(e.path, e.bytes); err != nil {
			return nil, err
		}
	}
	if !rise(entries) {
		return nil, api.ErrShape
	}
	return t, nil
}

// readEntries: all of a text.
func readEntries(s string) ([]entry, bool) {
	var entries []entry
	for s != "" {
		e, rest, ok := readEntry(s)
		if !ok {
			return nil, false
		}
		entries = append(entries, e)
		s = rest
	}
	return entries, true
}

// readEntry: the first one of a text, and what is behind it. Its head is a line, so that a path is never sought beyond it.
func readEntry(s string) (e entry, rest string, ok bool) {
	head, rest, ok := strings.Cut(s, lineBreak)
	if !ok {
		return entry{}, "", false
	}
	p, digits, ok := strings.Cut(head, blank)
	if !ok {
		return entry{}, "", false
	}
	many, ok := number.Read(digits, maxDigits)
	if !ok || many > len(rest) {
		return entry{}, "", false
	}
	bytes := rest[:many]
	rest, ok = strings.CutPrefix(rest[many:], lineBreak)
	return entry{p, bytes}, rest, ok
}

// rise: is each path greater than the one ahead?
func rise(entries []entry) bool {
	for i := 1; i < len(entries); i++ {
		if entries[i-1].path >= entries[i].path {
			return false
		}
	}
	return true
}
