package act

import (
	"slices"
	"strconv"
	"strings"
	"testing"
)

// texts calls f with each text of at most so many of the given bytes.
func texts(bytes string, most int, f func(s string)) {
	level := []string{""}
	for n := 0; ; n++ {
		var next []string
		for _, s := range level {
			f(s)
			for i := range len(bytes) {
				next = append(next, s+bytes[i:i+1])
			}
		}
		if n == most {
			return
		}
		level = next
	}
}

// made: what a command makes that must run.
func made(t *testing.T, name, word string, inputs ...string) string {
	t.Helper()
	s, err := Run(name, word, inputs)
	if err != nil {
		t.Fatalf("Run(%q, %q, %q) is %v", name, word, inputs, err)
	}
	return s
}

// ended: a model of lines that goes byte by byte; each one has its line break.
func ended(inputs ...string) []string {
	var all []string
	for _, s := range inputs {
		line := ""
		for i := range len(s) {
			line += s[i : i+1]
			if s[i] == '\n' {
				all = append(all, line)
				line = ""
			}
		}
		if line != "" {
			all = append(all, line+"\n")
		}
	}
	return all
}

// P30: ordinary inputs, and those that the chapter names, of each kind.
func TestRun(t *testing.T) {
	for _, c := range []struct {
		name, word string
		inputs     []string
		want       string
	}{
		{"write", "", nil, ""},
		{"write", "a b\nc", nil, "a b\nc"},
		{"write", "\xff\x00", nil, "\xff\x00"},
		{"join", "", []string{""}, ""},
		{"join", "+", []string{"a"}, "a"},
		{"join", "+", []string{"a", "b"}, "a+b"},
		{"join", "+", []string{"", ""}, "+"},
		{"join", "\n", []string{"a\n", "", "b"}, "a\n\n\nb"},
		{"join", "", []string{"1", "2", "3", "4", "5", "6", "7", "8"}, "12345678"},
		{"upper", "", []string{""}, ""},
		{"upper", "", []string{"Straße, ñandú\n"}, "STRAßE, ñANDú\n"},
		{"lines", "a", []string{""}, ""},
		{"lines", "a", []string{"b\nab\nA"}, "ab\n"},
		{"lines", "a\n", []string{"a\na\n"}, ""},
		{"lines", "\n", []string{"\n\n"}, ""},
		{"lines", "", []string{"\n\na"}, "\n\na\n"},
		{"lines", "\xa9", []string{"é\nè\n"}, "é\n"},
		{"sort", "", []string{""}, ""},
		{"sort", "", []string{"b\na\nab\na"}, "a\na\nab\nb\n"},
		{"sort", "", []string{"é\nz\nZ\n\xff\n9\n10"}, "10\n9\nZ\nz\né\n\xff\n"},
		{"sort", "", []string{"a\x01\na\n"}, "a\na\x01\n"},
		{"sort", "", []string{"b", "a"}, "a\nb\n"},
		{"sort", "once", []string{"b\n\nb", "b", "\na"}, "\na\nb\n"},
		{"count", "", []string{""}, "0 0\n"},
		{"count", "", []string{"a", "b"}, "2 2\n"},
		{"count", "", []string{"é\n"}, "1 3\n"},
		{"swap", "a=", []string{"aXa"}, "X"},
		{"swap", "ab=ba", []string{"aabb"}, "abab"},
		{"swap", "aa=a", []string{"aaaaa"}, "aaa"},
		{"swap", "aba=x", []string{"ababa"}, "xba"},
		{"swap", "\n=;", []string{"a\nb\n"}, "a;b;"},
		{"swap", " = ", []string{"a b"}, "a b"},
		{"swap", "\xa9=e", []string{"é"}, "\xc3e"},
		{"swap", "x=y", []string{""}, ""},
		{"head", "0", []string{"a\nb"}, ""},
		{"head", "1", []string{"b\na"}, "b\n"},
		{"head", "2", []string{"\n\n\n"}, "\n\n"},
		{"head", "3", []string{"a\nb"}, "a\nb\n"},
		{"head", "999", []string{""}, ""},
		{"head", "12", []string{strings.Repeat("x\n", 20)}, strings.Repeat("x\n", 12)},
	} {
		if s := made(t, c.name, c.word, c.inputs...); s != c.want {
			t.Errorf("Run(%q, %q, %q) is %q, not %q", c.name, c.word, c.inputs, s, c.want)
		}
	}
}

// P30: upper changes the letters a to z alone.
func TestUpperBytes(t *testing.T) {
	for b := range 256 {
		want := byte(b)
		if i := strings.IndexByte("abcdefghijklmnopqrstuvwxyz", want); i >= 0 {
			want = "ABCDEFGHIJKLMNOPQRSTUVWXYZ"[i]
		}
		if s := made(t, "upper", "", string([]byte{'x', byte(b), 'x'})); s != string([]byte{'X', want, 'X'}) {
			t.Errorf("upper of %d is %q", b, s)
		}
	}
}

// P30: the kinds that go by lines, of each short text.
func TestLines(t *testing.T) {
	texts("ab\n", 6, func(s string) {
		l := ended(s)
		for _, word := range []string{"", "a", "ab", "\n", "a\n"} {
			want := ""
			for _, line := range l {
				if strings.Contains(line[:len(line)-1], word) {
					want += line
				}
			}
			if got := made(t, "lines", word, s); got != want {
				t.Fatalf("lines with %q of %q is %q, not %q", word, s, got, want)
			}
		}
		for n := range 8 {
			want := strings.Join(l[:min(n, len(l))], "")
			if got := made(t, "head", strconv.Itoa(n), s); got != want {
				t.Fatalf("head %d of %q is %q, not %q", n, s, got, want)
			}
		}
	})
}

// P30: the kinds that take all inputs' lines, each input's own. P32: sorted, and sorted again, it is the same.
func TestSortAndCount(t *testing.T) {
	texts("ab\n", 4, func(s string) {
		texts("a\n", 3, func(other string) {
			l := ended(s, other)
			want := strconv.Itoa(len(l)) + " " + strconv.Itoa(len(s)+len(other)) + "\n"
			if got := made(t, "count", "", s, other); got != want {
				t.Fatalf("count of %q and %q is %q, not %q", s, other, got, want)
			}
			slices.SortFunc(l, func(a, b string) int { return strings.Compare(a[:len(a)-1], b[:len(b)-1]) })
			all := made(t, "sort", "", s, other)
			if want := strings.Join(l, ""); all != want {
				t.Fatalf("sort of %q and %q is %q, not %q", s, other, all, want)
			}
			few := made(t, "sort", "once", s, other)
			if want := strings.Join(slices.Compact(l), ""); few != want {
				t.Fatalf("sort once of %q and %q is %q, not %q", s, other, few, want)
			}
			if made(t, "sort", "", all) != all || made(t, "sort", "", few) != few || made(t, "sort", "once", few) != few || made(t, "sort", "once", all) != few {
				t.Fatalf("sort of %q and %q is not the same again", s, other)
			}
		})
	})
}

// P32: also with lines of any bytes, and of as many bytes as a file has.
func TestSortAgain(t *testing.T) {
	var l []string
	for b := 255; b >= 0; b-- {
		l = append(l, string([]byte{byte(b), byte(b * 7)}))
	}
	for _, s := range []string{strings.Join(l, "\n"), strings.Repeat("\n", 2000), strings.Repeat("zy\nx\n", 400), strings.Repeat("a", 1999)} {
		for _, word := range []string{"", "once"} {
			all := made(t, "sort", word, s)
			if again := made(t, "sort", word, all); again != all || all == "" {
				t.Errorf("sort %q of %.20q is not the same again", word, s)
			}
			if lines := ended(all); !slices.IsSortedFunc(lines, func(a, b string) int { return strings.Compare(a[:len(a)-1], b[:len(b)-1]) }) {
				t.Errorf("sort %q of %.20q does not rise", word, s)
			}
		}
	}
}

// swapped: a model of swap that goes from the left on.
func swapped(a, b, s string) string {
	for i := 0; i+len(a) <= len(s); i++ {
		if s[i:i+len(a)] == a {
			return s[:i] + b + swapped(a, b, s[i+len(a):])
		}
	}
	return s
}

// P30: swap of each short text, by short words.
func TestSwap(t *testing.T) {
	texts("ab", 3, func(a string) {
		for _, b := range []string{"", "a", "ab", "\n"} {
			if a == "" {
				continue
			}
			texts("ab", 6, func(s string) {
				if got := made(t, "swap", a+"="+b, s); got != swapped(a, b, s) {
					t.Fatalf("swap %q for %q in %q is %q", a, b, s, got)
				}
			})
		}
	})
}

// P30: head takes each number of at most three digits.
func TestHeadNumbers(t *testing.T) {
	s := strings.Repeat("\n", 1500)
	for n := range 1000 {
		if got := made(t, "head", strconv.Itoa(n), s); len(got) != n {
			t.Fatalf("head %d has %d lines", n, len(got))
		}
	}
}
