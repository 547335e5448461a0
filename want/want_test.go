package want

import (
	"fmt"
	"reflect"
	"slices"
	"strings"
	"testing"

	"kilnfield/api"
	"kilnfield/rule"
	"kilnfield/tree"
)

// sheetOf lines, each a rule.
func sheetOf(t testing.TB, lines ...string) []api.Rule {
	t.Helper()
	l, err := rule.Read(strings.Join(lines, "\n") + "\n")
	if err != nil {
		t.Fatalf("%q: %v", lines, err)
	}
	return l
}

// files: a tree of paths, each with its bytes behind it.
func files(t testing.TB, pairs ...string) *tree.Tree {
	t.Helper()
	x := tree.New()
	for i := 0; i < len(pairs); i += 2 {
		if err := x.Put(pairs[i], pairs[i+1]); err != nil {
			t.Fatal(err)
		}
	}
	return x
}

// tells: an out has these bytes.
func tells(t *testing.T, x *tree.Tree, l []api.Rule, out, want string) {
	t.Helper()
	if s, err := Of(x, l, out); s != want || err != nil {
		t.Errorf("Of %q is %.60q, %v, not %.60q", out, s, err, want)
	}
}

// refuses: an out has just this error, bare, and no bytes.
func refuses(t *testing.T, x *tree.Tree, l []api.Rule, out string, want error) {
	t.Helper()
	if s, err := Of(x, l, out); s != "" || err != want {
		t.Errorf("Of %q is %.60q, %v, not %v", out, s, err, want)
	}
}

// lays: All makes just these files, and leaves the tree and the rules as they were.
func lays(t *testing.T, x *tree.Tree, l []api.Rule, want *tree.Tree) {
	t.Helper()
	text, rules := x.Text(), fmt.Sprintf("%q", l)
	all, err := All(x, l)
	if err != nil || all == nil {
		t.Fatalf("All is %v, %v", all, err)
	}
	if all.Text() != want.Text() {
		t.Errorf("All is %q, not %q", all.Text(), want.Text())
	}
	if x.Text() != text || fmt.Sprintf("%q", l) != rules {
		t.Errorf("All changed %q to %q, %s to %q", text, x.Text(), rules, l)
	}
}

// isFault: is an error a fault with just that place and that error?
func isFault(err error, at int, want error) bool {
	f, ok := err.(*api.Fault)
	return ok && f.At == at && f.Err == want
}

// P80: each out by its rule, at whatever depth, of the files as they are; with every kind.
func TestOf(t *testing.T) {
	x := files(t, "f", "b2\nab\nb1", "d/e", "")
	l := sheetOf(t,
		"all = join \"+\" up f two", "up = upper f", "two = head \"2\" srt", "srt = sort f wr", "wr = write \"a\\nb1\"",
		"one = sort \"once\" f wr", "bs = lines \"b\" srt", "sw = swap \"b=--\" bs", "n = count all d/e", "d/g = join d/e")
	for out, want := range map[string]string{
		"all": "B2\nAB\nB1+b2\nab\nb1+a\nab\n", "up": "B2\nAB\nB1", "two": "a\nab\n", "srt": "a\nab\nb1\nb1\nb2\n", "wr": "a\nb1",
		"one": "a\nab\nb1\nb2\n", "bs": "ab\nb1\nb1\nb2\n", "sw": "a--\n--1\n--1\n--2\n", "n": "6 23\n", "d/g": "",
	} {
		tells(t, x, l, out, want)
	}
}

// P80: the document's own example.
func TestExample(t *testing.T) {
	tells(t, files(t, "a", "x"), sheetOf(t, "b = upper a"), "b", "X")
}

// P80: an input that a rule makes is by its rule, also if the tree has a file there, and also where the tree would not take it; inputs come in the order of the rule.
func TestRuleAheadOfFile(t *testing.T) {
	x := files(t, "a", "file a", "b", "file b", "c/d", "deep", "o", "file o")
	l := sheetOf(t, "o = join \"|\" b a c/d c", "a = write \"rule a\"", "c = write \"above\"", "b/e = join \",\" a o b")
	tells(t, x, l, "a", "rule a")
	tells(t, x, l, "o", "file b|rule a|deep|above")
	tells(t, x, l, "b/e", "rule a,file b|rule a|deep|above,file b")
	tells(t, x, l, "c", "above")
	// a rule that has an error does not give way to a file
	bad := sheetOf(t, "a = upper none", "p = upper a")
	refuses(t, x, bad, "a", api.ErrNone)
	refuses(t, x, bad, "p", api.ErrNone)
}

// P80, P2: what is told hangs on the tree as it is: it is remembered within one call alone.
func TestFilesChange(t *testing.T) {
	x, l := files(t, "f", "old"), sheetOf(t, "a = upper f", "b = join a f")
	tells(t, x, l, "b", "OLDold")
	if err := x.Put("f", "new"); err != nil {
		t.Fatal(err)
	}
	tells(t, x, l, "b", "NEWnew")
	if err := x.Remove("f"); err != nil {
		t.Fatal(err)
	}
	refuses(t, x, l, "b", api.ErrNone)
	tells(t, x, sheetOf(t, "a = write \"a\"", "b = upper a"), "b", "A")
}

// P80: what has no rule is none, bare: also a file, an input, what is no path.
func TestNoRule(t *testing.T) {
	x, l := files(t, "f", "f", "g/h", ""), sheetOf(t, "a = upper f", "b/c = upper none")
	for _, out := range []string{"f", "g/h", "none", "b", "b/c/d", "", "/", "a/", "./a", "A", "a\n", "\xff", strings.Repeat("a", 1<<16)} {
		refuses(t, x, l, out, api.ErrNone)
		refuses(t, x, nil, out, api.ErrNone)
		refuses(t, x, []api.Rule{}, out, api.ErrNone)
		refuses(t, &tree.Tree{}, l, out, api.ErrNone)
	}
}

// P80: a folder is no file, nor is what lies nowhere.
func TestNoFile(t *testing.T) {
	x := files(t, "c/d", "x", "f", "f")
	for _, in := range []string{"c", "none", "c/d/e", "f none", "none f", "f c/d c"} {
		l := sheetOf(t, "a = join "+in, "b = upper a")
		refuses(t, x, l, "a", api.ErrNone)
		refuses(t, x, l, "b", api.ErrNone)
	}
}

// P80: what a command makes is too long by one byte, or just not.
func TestTooLong(t *testing.T) {
	half := strings.Repeat("x", api.MaxBytes/2)
	x := files(t, "f", half, "g", half)
	l := sheetOf(t, "a = join f g", "b = join \"+\" f g", "c = upper b", "d = count a", "e = count a c")
	tells(t, x, l, "a", half+half)
	tells(t, x, l, "d", "1 2000\n")
	for _, out := range []string{"b", "c", "e"} {
		refuses(t, x, l, out, api.ErrLong)
	}
}

// P80: of several inputs that have an error the first one's is told, at whatever depth; only if none has one, the command's own.
func TestFirstError(t *testing.T) {
	half := strings.Repeat("x", api.MaxBytes/2+1)
	x := files(t, "f", half, "g", half)
	l := sheetOf(t,
		"long = join f g", "gone = upper none", "ok = upper f",
		"a = join long gone", "b = join gone long", "c = join none long", "d = join long none",
		"e = join ok long gone", "h = join ok f none", "i = join f ok",
		"j = join b a", "k = join a b", "m = join f g ok d c", "n = join f g ok c d", "p = join i h", "q = join h i")
	for out, want := range map[string]error{
		"long": api.ErrLong, "gone": api.ErrNone, "a": api.ErrLong, "b": api.ErrNone, "c": api.ErrNone, "d": api.ErrLong,
		"e": api.ErrLong, "h": api.ErrNone, "i": api.ErrLong, "j": api.ErrNone, "k": api.ErrLong, "m": api.ErrLong, "n": api.ErrNone,
		"p": api.ErrLong, "q": api.ErrNone,
	} {
		refuses(t, x, l, out, want)
	}
}

// P80: a round among the rules that are needed: there is no order, whatever else has an error; a round elsewhere does not count.
func TestCycle(t *testing.T) {
	l := sheetOf(t,
		"a = upper b", "b = join c x", "c = upper a", "in = upper c", "mix = join none ok in", "ok = upper x",
		"two = upper twi", "twi = upper two", "out = join ok y", "y = write \"y\"")
	x := files(t, "x", "x", "a", "file a", "b", "file b", "c", "file c")
	for _, out := range []string{"a", "b", "c", "in", "mix", "two", "twi"} {
		refuses(t, x, l, out, api.ErrCycle)
	}
	tells(t, x, l, "ok", "X")
	tells(t, x, l, "out", "Xy")
	tells(t, x, l, "y", "y")
	refuses(t, x, l, "none", api.ErrNone)
	refuses(t, tree.New(), l, "ok", api.ErrNone)
}

// wrongSheets: sheets that are not well, with their error, and its place, or -1.
func wrongSheets(t testing.TB) []struct {
	l    []api.Rule
	at   int
	want error
} {
	round := sheetOf(t, "a = upper b", "b = upper a")
	with := func(r api.Rule) []api.Rule { return append(slices.Clone(round), r) }
	return []struct {
		l    []api.Rule
		at   int
		want error
	}{
		{make([]api.Rule, api.MaxRules+1), -1, api.ErrBound},
		{[]api.Rule{{}}, 0, api.ErrName},
		{with(api.Rule{Out: "c", Kind: "none"}), 2, api.ErrKind},
		{with(api.Rule{Out: "c", Kind: "upper"}), 2, api.ErrShape},
		{with(api.Rule{Out: "c", Kind: "write", Word: strings.Repeat("x", 101)}), 2, api.ErrLong},
		{with(api.Rule{Out: "c", Kind: "upper", Inputs: []string{"C"}}), 2, api.ErrName},
		{with(api.Rule{Out: "c", Kind: "upper", Inputs: []string{"c"}}), 2, api.ErrExist},
		{with(api.Rule{Out: "a", Kind: "write"}), 2, api.ErrExist},
	}
}

// P80, P81: errors in the order in which the document names them: no tree, then the sheet's with its place, then the rest.
func TestFaults(t *testing.T) {
	x := files(t, "f", "f")
	for i, c := range wrongSheets(t) {
		is := func(err error) bool { return c.at < 0 && err == c.want || c.at >= 0 && isFault(err, c.at, c.want) }
		for _, out := range []string{"a", "c", "what", ""} {
			refuses(t, nil, c.l, out, api.ErrShape)
			if s, err := Of(x, c.l, out); s != "" || !is(err) {
				t.Errorf("%d: Of %q is %q, %v", i, out, s, err)
			}
		}
		if all, err := All(nil, c.l); all != nil || err != api.ErrShape {
			t.Errorf("%d: All is %v, %v", i, all, err)
		}
		if all, err := All(x, c.l); all != nil || !is(err) {
			t.Errorf("%d: All is %v, %v", i, all, err)
		}
	}
	refuses(t, nil, nil, "a", api.ErrShape)
	refuses(t, nil, sheetOf(t, "a = upper b", "b = upper a"), "a", api.ErrShape)
	if all, err := All(nil, nil); all != nil || err != api.ErrShape {
		t.Errorf("All is %v, %v", all, err)
	}
	if s := x.Text(); s != "f 1\nf\n" {
		t.Errorf("the tree is %q", s)
	}
}

// P1, P80, P81: a call ends soon, however many ways lead to a rule, whether it has an error or not.
func TestManyWays(t *testing.T) {
	l := []api.Rule{{Out: "o0", Kind: "upper", Inputs: []string{"f"}}}
	for i := 1; i < api.MaxRules; i++ {
		r := api.Rule{Out: fmt.Sprint("o", i), Kind: "count"}
		for j := max(0, i-api.MaxInputs); j < i; j++ {
			r.Inputs = append(r.Inputs, l[j].Out)
		}
		l = append(l, r)
	}
	slices.Reverse(l)
	tells(t, files(t, "f", "f"), l, "o39", "8 40\n")
	refuses(t, tree.New(), l, "o39", api.ErrNone)
	if all, err := All(files(t, "f", "f"), l); err != nil || len(all.Paths()) != 1+api.MaxRules {
		t.Errorf("All is %q, %v", all.Paths(), err)
	}
	lays(t, tree.New(), l, tree.New())
}

// P4: what is handed over is only read; what lies behind a list's length is neither read nor written.
func TestMemory(t *testing.T) {
	x := files(t, "x", "1", "y", "2")
	l := sheetOf(t, "a = join \"+\" x y", "b = upper a", "c = write", "d = sort x")
	l[3].Out = "a"
	l[0].Inputs = l[0].Inputs[:1]
	before := make([]api.Rule, len(l))
	for i, r := range l {
		before[i] = r
		before[i].Inputs = slices.Clone(r.Inputs)
	}
	tells(t, x, l[:2], "b", "1")
	refuses(t, x, l[:2], "c", api.ErrNone)
	lays(t, x, l[:2], files(t, "x", "1", "y", "2", "a", "1", "b", "1"))
	if !reflect.DeepEqual(l, before) || l[0].Inputs[:2][1] != "y" {
		t.Errorf("%q, not %q", l, before)
	}
}
