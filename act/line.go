package act

import "strings"

const lineBreak = "\n"

// linesOf some bytes, without their line breaks.
func linesOf(s string) []string {
	l := strings.Split(s, lineBreak)
	last := len(l) - 1
	if l[last] == "" {
		return l[:last]
	}
	return l
}

// allLines of inputs, each one's own: where an input ends, so does its last line.
func allLines(inputs []string) []string {
	var l []string
	for _, s := range inputs {
		l = append(l, linesOf(s)...)
	}
	return l
}

// told: lines as bytes, each with a line break.
func told(lines []string) string {
	var b strings.Builder
	for _, line := range lines {
		b.WriteString(line)
		b.WriteString(lineBreak)
	}
	return b.String()
}
