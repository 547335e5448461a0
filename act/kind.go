package act

import (
	"slices"
	"strconv"
	"strings"

	"kilnfield/api"
	"kilnfield/number"
)

const (
	once      = "once"
	equals    = "="
	maxDigits = 3 // of the word of head
)

// maker makes bytes of a word and of inputs that fit its kind.
type maker func(word string, inputs []string) string

// kind of commands: how many inputs and which words it takes, and what it makes of them.
type kind struct {
	least, most int
	takes       func(word string) bool
	run         maker
}

// kinds of commands, by their names.
func kinds() map[string]kind {
	return map[string]kind{
		"write": {0, 0, anyWord, func(word string, _ []string) string { return word }},
		"join":  {1, api.MaxInputs, anyWord, func(word string, inputs []string) string { return strings.Join(inputs, word) }},
		"upper": {1, 1, among(""), ofOne(func(_, input string) string { return upper(input) })},
		"lines": {1, 1, anyWord, ofOne(linesWith)},
		"sort":  {1, api.MaxInputs, among("", once), sorted},
		"count": {1, api.MaxInputs, among(""), func(_ string, inputs []string) string { return count(inputs) }},
		"swap":  {1, 1, isSwap, ofOne(swap)},
		"head":  {1, 1, isMany, ofOne(head)},
	}
}

// anyWord will do.
func anyWord(string) bool { return true }

// among: only one of these will do.
func among(words ...string) func(word string) bool {
	return func(word string) bool { return slices.Contains(words, word) }
}

// isSwap: is a word A=B?
func isSwap(word string) bool {
	a, b, ok := strings.Cut(word, equals)
	return ok && a != "" && !strings.Contains(b, equals)
}

// isMany: does a word tell how many?
func isMany(word string) bool {
	_, ok := number.Read(word, maxDigits)
	return ok
}

// ofOne is for kinds that take just one input.
func ofOne(run func(word, input string) string) maker {
	return func(word string, inputs []string) string { return run(word, inputs[0]) }
}

// upper goes byte by byte: other bytes, also those that are no letters at all, stay as they are.
func upper(s string) string {
	b := []byte(s)
	for i, c := range b {
		if 'a' <= c && c <= 'z' {
			b[i] = c - 'a' + 'A'
		}
	}
	return string(b)
}

// linesWith: those that have the word in them.
func linesWith(word, input string) string {
	return told(slices.DeleteFunc(linesOf(input), func(line string) bool { return !strings.Contains(line, word) }))
}

// sorted: all lines of all inputs.
func sorted(word string, inputs []string) string {
	l := allLines(inputs)
	slices.Sort(l)
	if word == once {
		l = slices.Compact(l)
	}
	return told(l)
}

// count of lines and bytes.
func count(inputs []string) string {
	bytes := 0
	for _, s := range inputs {
		bytes += len(s)
	}
	return strconv.Itoa(len(allLines(inputs))) + " " + strconv.Itoa(bytes) + lineBreak
}

// swap each A for B.
func swap(word, input string) string {
	a, b, _ := strings.Cut(word, equals)
	return strings.ReplaceAll(input, a, b)
}

// head: the first lines, or all, if there are fewer.
func head(word, input string) string {
	n, _ := number.Read(word, maxDigits)
	l := linesOf(input)
	return told(l[:min(n, len(l))])
}
