package rule

import (
	"slices"
	"strings"

	"kilnfield/api"
)

const (
	lineBreak = "\n"
	blank     = " "
	equals    = " = "
	quote     = `"`
)

// Text of a sheet.
func Text(l []api.Rule) (string, error) {
	if err := Sheet(l); err != nil {
		return "", err
	}
	var b strings.Builder
	for _, r := range l {
		b.WriteString(lineOf(r) + lineBreak)
	}
	return b.String(), nil
}

// Read a sheet. All lines are read ahead of a look at what they tell: so the errors come as the document ranks them.
func Read(s string) ([]api.Rule, error) {
	if len(s) > api.MaxText {
		return nil, api.ErrBound
	}
	var l []api.Rule
	err := search(slices.Collect(strings.Lines(s)), func(_ int, line string) error {
		r, ok := readLine(line)
		if !ok {
			return api.ErrText
		}
		l = append(l, r)
		return nil
	})
	if err != nil {
		return nil, err
	}
	if err := Sheet(l); err != nil {
		return nil, err
	}
	return l, nil
}

// lineOf a rule, without its line break.
func lineOf(r api.Rule) string {
	s := r.Out + equals + r.Kind
	if r.Word != "" {
		s += blank + quoted(r.Word)
	}
	for _, input := range r.Inputs {
		s += blank + input
	}
	return s
}

// readLine with its line break: what is behind the last one of a text has none, and is not just so.
func readLine(s string) (api.Rule, bool) {
	s, ended := strings.CutSuffix(s, lineBreak)
	out, rest, is := strings.Cut(s, equals)
	if !ended || !is {
		return api.Rule{}, false
	}
	kind, rest := cutKind(rest)
	word, rest, ok := cutWord(rest)
	if !ok {
		return api.Rule{}, false
	}
	inputs, ok := readInputs(rest)
	if !ok {
		return api.Rule{}, false
	}
	return api.Rule{Out: out, Kind: kind, Word: word, Inputs: inputs}, true
}

// cutKind: the blank behind it stays in the rest, since it belongs to what comes next.
func cutKind(s string) (kind, rest string) {
	i := strings.Index(s, blank)
	if i < 0 {
		return s, ""
	}
	return s[:i], s[i:]
}

// cutWord, if there is one.
func cutWord(s string) (word, rest string, ok bool) {
	within, is := strings.CutPrefix(s, blank+quote)
	if !is {
		return "", s, true
	}
	word, rest, ok = unquoted(within)
	return word, rest, ok && word != ""
}

// readInputs: each one with its blank.
func readInputs(s string) ([]string, bool) {
	if s == "" {
		return nil, true
	}
	s, is := strings.CutPrefix(s, blank)
	inputs := strings.Split(s, blank)
	if !is || slices.Contains(inputs, "") {
		return nil, false
	}
	return inputs, true
}
