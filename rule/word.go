package rule

import "strings"

const escape = '\\'

// quoted word: no bare quote and no line break stays within, so that a line of a sheet is one line, and a word ends at the first bare quote.
func quoted(word string) string {
	var b strings.Builder
	b.WriteByte('"')
	for i := range len(word) {
		switch c := word[i]; c {
		case '"', escape:
			b.WriteByte(escape)
			b.WriteByte(c)
		case '\n':
			b.WriteByte(escape)
			b.WriteByte('n')
		default:
			b.WriteByte(c)
		}
	}
	b.WriteByte('"')
	return b.String()
}

// unquoted: the word of a text that begins behind its first quote, and what is behind the second one.
func unquoted(s string) (word, rest string, ok bool) {
	var b strings.Builder
	for i := 0; i < len(s); i++ {
		c := s[i]
		switch c {
		case '"':
			return b.String(), s[i+1:], true
		case escape:
			i++
			if c, ok = escaped(s, i); !ok {
				return "", "", false
			}
		}
		b.WriteByte(c)
	}
	return "", "", false
}

// escaped: what the byte at a place stands for behind an escape.
func escaped(s string, at int) (byte, bool) {
	if at >= len(s) {
		return 0, false
	}
	switch c := s[at]; c {
	case '"', escape:
		return c, true
	case 'n':
		return '\n', true
	}
	return 0, false
}
