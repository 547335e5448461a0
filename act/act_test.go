package act

import (
	"math"
	"slices"
	"strings"
	"testing"

	"kilnfield/api"
)

// fitting: all kinds, with a word and a number of inputs that fit.
func fitting() []struct {
	name, word  string
	least, most int
} {
	return []struct {
		name, word  string
		least, most int
	}{
		{"write", "w", 0, 0}, {"join", "w", 1, 8}, {"upper", "", 1, 1}, {"lines", "w", 1, 1},
		{"sort", "", 1, 8}, {"sort", "once", 1, 8}, {"count", "", 1, 8}, {"swap", "a=b", 1, 1}, {"head", "1", 1, 1},
	}
}

// oddWords are none that each kind takes.
func oddWords() []string {
	return []string{
		"", " ", "\n", "\x00", "\xff", "é", "=", "==", "a=", "=b", "a=b", "a=b=", "a==b", "=a=b", "once", "Once", "once ", "twice",
		"0", "00", "01", "1", "9", "10", "99", "100", "999", "1000", "0999", "-0", "-1", "+1", "1 ", " 1", "1.", "0x1", "1_0", "٣",
		"a\n=\nb", strings.Repeat("w", 100), strings.Repeat("w", 101), strings.Repeat("9", 101), strings.Repeat("0", 1<<20),
		"a=" + strings.Repeat("b", 98), "a=" + strings.Repeat("b", 99), "a==" + strings.Repeat("b", 99), "=" + strings.Repeat("b", 101),
	}
}

// P31: an unknown kind is ErrKind, ahead of all else.
func TestCheckKind(t *testing.T) {
	for _, name := range []string{"", " ", "Write", "WRITE", "write ", " write", "writes", "writ", "once", "sort once", "swap\n", "\xff", strings.Repeat("write", 1<<18)} {
		for _, word := range []string{"", "a=b", "1", strings.Repeat("w", 101)} {
			for _, inputs := range []int{-1, 0, 1, 9} {
				if err := Check(name, word, inputs); err != api.ErrKind {
					t.Errorf("Check(%q, %q, %d) is %v", name, word, inputs, err)
				}
			}
			if s, err := Run(name, word, []string{"x"}); s != "" || err != api.ErrKind {
				t.Errorf("Run(%q, %q) is %q, %v", name, word, s, err)
			}
		}
	}
}

// P31: so many inputs, and not more than MaxInputs.
func TestCheckInputs(t *testing.T) {
	for _, c := range fitting() {
		for _, n := range []int{math.MinInt, -1, 0, 1, 2, 3, 7, 8, 9, 10, 100, math.MaxInt} {
			var want error
			if n < c.least || n > c.most {
				want = api.ErrShape
			}
			if err := Check(c.name, c.word, n); err != want {
				t.Errorf("Check(%q, %q, %d) is %v", c.name, c.word, n, err)
			}
			if n < 0 || n > 100 {
				continue
			}
			if s, err := Run(c.name, c.word, make([]string, n)); err != want || err != nil && s != "" {
				t.Errorf("Run(%q, %q) of %d is %q, %v", c.name, c.word, n, s, err)
			}
		}
	}
}

// takes is what the chapter says of a kind's words, without their length.
func takes(name, word string) bool {
	switch name {
	case "upper", "count":
		return word == ""
	case "sort":
		return word == "" || word == "once"
	case "swap":
		return strings.Count(word, "=") == 1 && !strings.HasPrefix(word, "=")
	case "head":
		return len(word) == 1 && strings.Trim(word, "0123456789") == "" ||
			(len(word) == 2 || len(word) == 3) && strings.Trim(word, "0123456789") == "" && word[0] != '0'
	}
	return true
}

// P31: words that are not as they should be are ErrShape, and then those with more than 100 bytes ErrLong.
func TestCheckWord(t *testing.T) {
	for _, c := range fitting() {
		for _, word := range oddWords() {
			var want error
			switch {
			case !takes(c.name, word):
				want = api.ErrShape
			case len(word) > 100:
				want = api.ErrLong
			}
			if err := Check(c.name, word, c.least); err != want {
				t.Errorf("Check(%q, %.20q, %d) is %v", c.name, word, c.least, err)
			}
			if s, err := Run(c.name, word, make([]string, c.least)); err != want || err != nil && s != "" {
				t.Errorf("Run(%q, %.20q) is %q, %v", c.name, word, s, err)
			}
			if err := Check(c.name, word, c.most+1); err != api.ErrShape {
				t.Errorf("Check(%q, %.20q, %d) is %v", c.name, word, c.most+1, err)
			}
		}
	}
}

// P31: what comes has at most MaxBytes, whatever its inputs have.
func TestRunLong(t *testing.T) {
	x := func(n int) string { return strings.Repeat("x", n) }
	for i, c := range []struct {
		name, word string
		inputs     []string
		bytes      int
	}{
		{"join", "", []string{x(2000)}, 2000},
		{"join", "", []string{x(2001)}, 2001},
		{"join", "w", []string{x(1000), x(999)}, 2000},
		{"join", "w", []string{x(1000), x(1000)}, 2001},
		{"join", x(100), make([]string, 8), 700},
		{"upper", "", []string{x(2000)}, 2000},
		{"upper", "", []string{x(2001)}, 2001},
		{"lines", "x", []string{x(1999)}, 2000},
		{"lines", "x", []string{x(1999) + "\n"}, 2000},
		{"lines", "x", []string{x(2000)}, 2001},
		{"lines", "y", []string{x(1<<20) + "\ny"}, 2},
		{"sort", "", []string{x(1000), x(998)}, 2000},
		{"sort", "", []string{x(1000), x(999)}, 2001},
		{"sort", "once", []string{strings.Repeat("x\n", 1<<20)}, 2},
		{"sort", "once", []string{x(1999), x(1999)}, 2000},
		{"sort", "once", []string{x(2000), x(2000)}, 2001},
		{"count", "", []string{x(1 << 20)}, len("1 1048576\n")},
		{"swap", "x=yy", []string{x(1000)}, 2000},
		{"swap", "x=yy", []string{x(1001)}, 2002},
		{"swap", "x=", []string{x(1 << 20)}, 0},
		{"swap", "y=", []string{x(2001)}, 2001},
		{"head", "1", []string{x(1999) + "\n" + x(1999)}, 2000},
		{"head", "1", []string{x(2000)}, 2001},
		{"head", "999", []string{strings.Repeat("\n", 1<<20)}, 999},
		{"head", "999", []string{strings.Repeat("x\n", 999)}, 1998},
		{"head", "999", []string{strings.Repeat("xx\n", 999)}, 2997},
	} {
		s, err := Run(c.name, c.word, c.inputs)
		if c.bytes > api.MaxBytes && (s != "" || err != api.ErrLong) || c.bytes <= api.MaxBytes && (len(s) != c.bytes || err != nil) {
			t.Errorf("%d: Run(%q, %.20q) has %d bytes, not %d: %v", i, c.name, c.word, len(s), c.bytes, err)
		}
	}
}

// P1: what nobody should hand over makes no panic, and Run tells what Check tells. P3: with an error nothing comes. P2: twice the same.
func TestRunOdd(t *testing.T) {
	inputs := append(oddWords(), "a\nb\nc", "\n\n", strings.Repeat("a\n", 1<<10))
	for _, c := range fitting() {
		for _, word := range oddWords() {
			for n := range inputs {
				few := inputs[n:min(n+n%10, len(inputs))]
				s, err := Run(c.name, word, few)
				if told := Check(c.name, word, len(few)); told != nil && err != told || err != nil && s != "" || told == nil && err != nil && err != api.ErrLong {
					t.Fatalf("Run(%q, %.20q) of %d is %q, %v, and Check tells %v", c.name, word, len(few), s, err, told)
				}
				if again, fails := Run(c.name, word, few); again != s || fails != err {
					t.Fatalf("Run(%q, %.20q) is not the same again", c.name, word)
				}
			}
		}
	}
}

// P3, P4: inputs are only read, and nothing behind them is; nil and no inputs are one thing.
func TestRunOnlyReads(t *testing.T) {
	all := []string{"c\na\nb", "b\na", "x", "y", "z", "z", "z", "z", "z", "z"}
	kept := slices.Clone(all)
	for _, c := range fitting() {
		few, rest := all[:c.most], all[:c.most:c.most]
		s, err := Run(c.name, c.word, few)
		if want, fails := Run(c.name, c.word, rest); s != want || err != nil || fails != nil {
			t.Errorf("Run(%q) is %q, not %q: %v, %v", c.name, s, want, err, fails)
		}
		if !slices.Equal(all, kept) {
			t.Fatalf("Run(%q) changes its inputs: %q", c.name, all)
		}
	}
	for _, name := range []string{"write", "join", "upper"} {
		a, errA := Run(name, "", nil)
		b, errB := Run(name, "", []string{})
		if a != b || errA != errB {
			t.Errorf("Run(%q) of nil is %q, %v; of no inputs %q, %v", name, a, errA, b, errB)
		}
	}
}
