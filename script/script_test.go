package script

import (
	"fmt"
	"slices"
	"strings"
	"testing"

	"kilnfield/api"
)

// Texts of errors, as answers have them.
const (
	noText  = "kilnfield: text"
	noBound = "kilnfield: bound"
	noShape = "kilnfield: shape"
	noName  = "kilnfield: name"
	noKind  = "kilnfield: kind"
	noNone  = "kilnfield: none"
	noExist = "kilnfield: exist"
	noFull  = "kilnfield: full"
	noCycle = "kilnfield: cycle"
	noLong  = "kilnfield: long"
)

// answers: lines have these answers: pairs holds each line with its answer behind it.
func answers(t *testing.T, pairs ...string) {
	t.Helper()
	var lines, want []string
	for i := 0; i < len(pairs); i += 2 {
		lines, want = append(lines, pairs[i]), append(want, pairs[i+1])
	}
	got, err := Run(lines)
	if err != nil || len(got) != len(want) {
		t.Fatalf("%d lines have %d answers, %v", len(lines), len(got), err)
	}
	for i := range want {
		if got[i] != want[i] {
			t.Errorf("line %d, %.80q: %.80q, not %.80q", i, lines[i], got[i], want[i])
		}
	}
}

// rowOf lines, by numbers, each with the same answer behind it.
func rowOf(many int, line func(i int) string, answer string) []string {
	var pairs []string
	for i := range many {
		pairs = append(pairs, line(i), answer)
	}
	return pairs
}

// P130: a script begins with no files and no rules, and none of what another one left.
func TestBegins(t *testing.T) {
	for range 2 {
		answers(t,
			"files", "nothing", "order", "nothing", "leaves", "nothing", "stale", "nothing", "make", "0 0 0 0", "show a", noNone, "want b", noNone, "drop a", noNone,
			"put a x", "ok", "rule b = upper a", "ok", "make", "1 0 0 0", "show b", "X", "want b", "X")
	}
}

// P130: how many lines there may be, whatever they are.
func TestManyLines(t *testing.T) {
	for _, n := range []int{0, 1, api.MaxLines - 1, api.MaxLines} {
		got, err := Run(make([]string, n))
		if len(got) != n || err != nil {
			t.Errorf("%d lines: %d answers, %v", n, len(got), err)
		}
		for _, s := range got {
			if s != noText {
				t.Errorf("%d lines: %q", n, s)
			}
		}
	}
	for _, n := range []int{api.MaxLines + 1, api.MaxLines + 2, 1 << 20} {
		if got, err := Run(slices.Repeat([]string{"make"}, n)); len(got) > 0 || err != api.ErrBound {
			t.Errorf("%d lines: %d answers, %v", n, len(got), err)
		}
	}
	if got, err := Run(nil); len(got) > 0 || err != nil {
		t.Errorf("%q, %v", got, err)
	}
}

// P130: what is put is all behind the blank behind the path, with line breaks for `;`.
func TestPut(t *testing.T) {
	for text, want := range map[string]string{
		"x": "x", "": "", ";": ";", "a;b": "a;b", ";;a;;": ";;a;;", " ": " ", "  x  y ": "  x  y ", "put b c": "put b c", "\"x\"": "\"x\"", "\\n": "\\n",
		"a\nb;c": "a;b;c", "A\t\r\x00\xffé": "A\t\r\x00\xffé",
	} {
		answers(t, "put a "+text, "ok", "show a", want, "files", "a")
	}
	// Line breaks are bytes of the file, not of the script alone.
	answers(t, "put f b;a;;", "ok", "rule n = count f", "ok", "rule s = sort f", "ok", "rule l = lines \";\" f", "ok", "make", "3 0 0 0", "show n", "3 5;", "show s", ";a;b;", "show l", "")
	answers(t, "put a 1", "ok", "put a/b 2", noExist, "put b/c 3", "ok", "put b 4", noExist, "put a 5", "ok", "files", "a b/c", "show a", "5")
}

// P130, P131: Put's bounds, by their errors.
func TestPutBounds(t *testing.T) {
	most := strings.Repeat("x;", api.MaxBytes/2)
	answers(t, "put a "+most, "ok", "show a", most, "put a "+most+"y", noBound, "show a", most, "put b "+most+";", noBound, "files", "a", "put a/b "+most+"y", noBound)
	full := rowOf(api.MaxFiles, func(i int) string { return fmt.Sprint("put f", i, " ", i) }, "ok")
	answers(t, append(full, "put g x", noFull, "put f0/g x", noExist, "put f7 y", "ok", "drop f9", "ok", "put g x", "ok", "show g", "x", "show f7", "y", "show f9", noNone)...)
}

// P130: what is dropped is no file any more; what was made of it stays until it is made anew.
func TestDrop(t *testing.T) {
	answers(t,
		"put a x", "ok", "put b/c y", "ok", "rule u = upper a", "ok", "make", "1 0 0 0",
		"drop b", noNone, "drop b/c", "ok", "drop b/c", noNone, "files", "a",
		"drop u", noNone, "show u", "X", "drop a", "ok", "files", "nothing", "show a", noNone, "show u", "X", "stale", "u", "want u", noNone,
		"make", "0 0 1 0", "show u", noNone, "stale", "nothing")
}

// P130: rules come one by one; those that are not well, or have no place beside the others, are not taken.
func TestRule(t *testing.T) {
	answers(t,
		"rule b = upper a", "ok", "order", "b", "rule d = join \"+ \\n;\\\"\\\\\" b c", "ok", "rule c = write \"1 2\"", "ok", "order", "b c d", "leaves", "a",
		"rule b = upper c", noExist, "rule b = write", noExist, "rule a = upper d", noCycle, "rule e = upper e", noExist, "rule e = join a a", noExist,
		"rule E = what", noName, "rule e = what", noKind, "rule e = upper", noShape, "rule e = head \"x\" a", noShape, "rule e = upper A", noName, "rule e = write \""+strings.Repeat("w", 101)+"\"", noLong,
		"order", "b c d", "put a x", "ok", "make", "3 0 0 0", "show d", "X+ ;;\"\\1 2", "show c", "1 2",
		"rule e = write \""+strings.Repeat("w", 100)+"\"", "ok", "rule a = write", "ok", "order", "c e a b d", "leaves", "nothing")
}

// P130, P131: a line that rule.Read does not read as a rule; one that it would read as several is none, too.
func TestRuleText(t *testing.T) {
	for _, line := range []string{"", " ", "a", "a =", "a=write", "a = write ", " a", "a = write \"", "a = write \"\"", "a = upper  b", "a = upper b ", "a = write \"x\ny\"", "a = write\n", "\na = write", "a = write\n\n", "a = write\nb", "a = write\nb = write", "a = write\nb = write\nc = write"} {
		answers(t, "rule "+line, noText, "order", "nothing", "rule a = write", "ok", "order", "a")
	}
	for line, want := range map[string]string{" a = write": noName, "a  = write": noName, "a =  write": noKind, "a = ": noKind, " = write": noName, "a = write\r": noKind, "rule a = write": noName} {
		answers(t, "rule "+line, want, "order", "nothing")
	}
	// with its line break a line has one byte more
	answers(t, "rule "+strings.Repeat("x", api.MaxText), noBound, "rule "+strings.Repeat("x", api.MaxText-1), noText, "rule "+strings.Repeat("x", 1<<20), noBound, "order", "nothing")
}

// P130: so many rules, and no more.
func TestManyRules(t *testing.T) {
	line := func(i int) string { return fmt.Sprint("rule o", i, " = write") }
	full := rowOf(api.MaxRules, line, "ok")
	answers(t, append(full, line(api.MaxRules), noBound, "rule o0 = write", noBound, "rule o", noText, "rule O = write", noName, "make", "1 39 0 0", "clear", "ok", line(api.MaxRules), "ok", "order", "o40")...)
}

// P130: no rules any more: files stay, and what was made.
func TestClear(t *testing.T) {
	answers(t,
		"clear", "ok", "put a x", "ok", "rule b = upper a", "ok", "rule c = upper b", "ok", "make b", "1 0 0 0", "stale", "c",
		"clear", "ok", "clear", "ok", "order", "nothing", "leaves", "nothing", "stale", "nothing", "make", "0 0 0 0", "make b", noNone, "want b", noNone,
		"files", "a", "show b", "X", "rule b = upper c", "ok", "order", "b", "stale", "b", "rule c = upper b", noCycle)
}

// P130: what is made, and the four numbers: ran, had, failed, left.
func TestMake(t *testing.T) {
	answers(t,
		"put a x", "ok", "rule b = upper a", "ok", "rule c = join b none", "ok", "rule d = sort c", "ok", "rule e = count d a", "ok", "rule f = head \"1\" b", "ok",
		"make b", "1 0 0 0", "make f", "1 1 0 0", "make f b", "0 2 0 0", "make f f b f", "0 2 0 0", "make", "0 2 1 2", "make c", "0 1 1 0", "make d f", "0 2 1 1",
		"make a", noNone, "make f none", noNone, "make none f", noNone, "make f b/c", noNone,
		"put none y", "ok", "make e", "3 1 0 0", "make", "0 5 0 0", "show e", "2 4;", "show c", "Xy")
	// An error of a build makes nothing.
	answers(t, "rule b = write \"x\"", "ok", "make b c", noNone, "show b", noNone, "make", "1 0 0 0")
	long := "put a " + strings.Repeat("x", 1500)
	answers(t, long, "ok", "rule b = upper a", "ok", "rule c = join a b", "ok", "rule d = upper c", "ok", "make", "1 0 1 1", "want d", noLong, "want c", noLong, "stale", "nothing")
}

// P130: the cache has room for 8.
func TestRoom(t *testing.T) {
	pairs := rowOf(8, func(i int) string { return fmt.Sprint("rule o", i, " = write \"", i, "\"") }, "ok")
	answers(t, append(pairs, "make", "8 0 0 0", "make", "0 8 0 0", "rule o8 = write \"8\"", "ok", "make", "1 8 0 0", "make", "9 0 0 0")...)
}

// P130: Out's file goes ahead of the tree's.
func TestShow(t *testing.T) {
	answers(t,
		"put a x;y", "ok", "put b file;b", "ok", "show a", "x;y", "show b", "file;b", "rule b = upper a", "ok", "show b", "file;b", "make", "1 0 0 0", "show b", "X;Y",
		"drop b", "ok", "show b", "X;Y", "drop a", "ok", "make", "0 0 1 0", "show b", noNone, "put b again", "ok", "show b", "again",
		"rule e = write", "ok", "put e file e", "ok", "show e", "file e", "make e", "1 0 0 0", "show e", "", "show what", noNone, "show b/c", noNone)
}

// P130: what is wanted, without a build.
func TestWant(t *testing.T) {
	answers(t,
		"put a x;y", "ok", "rule b = upper a", "ok", "rule c = join \"\\n\" b d", "ok", "rule d = write", "ok", "rule e = upper none", "ok", "rule f = join e c", "ok",
		"want b", "X;Y", "want c", "X;Y;", "want d", "", "want e", noNone, "want f", noNone, "want a", noNone, "want none", noNone,
		"files", "a", "show b", noNone, "stale", "b c d", "put a z", "ok", "want b", "Z", "make", "3 0 1 1", "want b", "Z")
}

// P130: rows of paths.
func TestRows(t *testing.T) {
	answers(t,
		"put z 1", "ok", "files", "z", "put b/c 2", "ok", "put b-c 3", "ok", "put a 4", "ok", "files", "a b-c b/c z",
		"rule o2 = join z o1 b/c", "ok", "rule o1 = join x z", "ok", "rule o3 = write", "ok", "rule m/n = sort a o3 b-c", "ok",
		"order", "o1 o2 o3 m/n", "leaves", "a b-c b/c x z", "stale", "m/n o3", "put x 5", "ok", "stale", "m/n o1 o2 o3",
		"make m/n", "2 0 0 0", "stale", "o1 o2", "make", "2 2 0 0", "stale", "nothing", "put a 6", "ok", "stale", "m/n", "drop a", "ok", "stale", "m/n", "put a 4", "ok", "stale", "nothing")
	// Out does not take what lies below another file: it stays stale.
	answers(t, "rule a = write", "ok", "rule a/b = write", "ok", "make", "1 1 0 0", "stale", "a/b", "show a/b", noNone, "want a/b", "")
}

// P131: lines that are none: they answer so, and do nothing.
func TestNone(t *testing.T) {
	begin := []string{"put a x", "ok", "rule b = upper a", "ok", "make", "1 0 0 0", "put a y", "ok"}
	end := []string{"files", "a", "order", "b", "stale", "b", "show a", "y", "show b", "X", "make", "1 0 0 0"}
	for _, line := range []string{
		"", " ", "  ", "\n", "\x00", "what", "what a", "Put a z", "PUT a z", " put a z", "put", "put ", "put  ", "put a", "put  z", "put  a z", "put A z", "put a/ z", "put /a z", "put . z", "put a/../a z", "put a\n z", "put\ta z", "put abcdefghijklm z", "put a/b/c/d/e/f z", "puta z",
		"drop", "drop ", "drop  ", "drop a ", "drop  a", "drop a a", "drop A", "drop a\n", "drop *", "dropa", "drop ./a",
		"rule", "rule ", "rule  ", "rule c", "rules c = write", "rulec = write", "clear ", "clear a", "clear  ", "Clear", "clear\n",
		"make ", "make  ", "make  b", "make b ", "make b  b", "make A", "make b A", "make A b", "make **", "make b,b", "make\tb", "makes", "make b\n",
		"show", "show ", "show a a", "show a ", "show  a", "show A", "show a;", "want", "want ", "want b b", "want b ", "want  b", "want B", "want \xff",
		"stale ", "stale b", "stales", "order ", "order b", "orders", "leaves ", "leaves a", "leaf", "files ", "files a", "file", "ok", "nothing", "kilnfield: text", strings.Repeat("make ", 1<<16), strings.Repeat(" ", 1<<20),
	} {
		answers(t, slices.Concat(begin, []string{line, noText}, end)...)
	}
}

// P131: a line that is none is told so, whatever else its command would say.
func TestNoneFirst(t *testing.T) {
	answers(t, "put A "+strings.Repeat("x", api.MaxBytes+1), noText, "make none A", noText, "show A", noText, "want A", noText, "drop A", noText)
}

// P3, P4: lines are only read, and nothing behind them is; what is answered is new memory.
func TestMemory(t *testing.T) {
	all := []string{"put a x", "show a", "put a y", "show a"}
	kept := slices.Clone(all)
	got, err := Run(all[:2])
	again, fails := Run(all[:2])
	if !slices.Equal(got, []string{"ok", "x"}) || err != nil || fails != nil || !slices.Equal(all, kept) {
		t.Errorf("%q, %v, %v; lines became %q", got, err, fails, all)
	}
	clear(got)
	_ = append(got, "z")
	if !slices.Equal(again, []string{"ok", "x"}) || !slices.Equal(all, kept) {
		t.Errorf("%q; lines became %q", again, all)
	}
}
