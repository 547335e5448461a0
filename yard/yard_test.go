package yard

import (
	"fmt"
	"math"
	"reflect"
	"slices"
	"strings"
	"testing"

	"kilnfield/api"
	"kilnfield/build"
	"kilnfield/rule"
	"kilnfield/tree"
)

// sheetOf lines, each a rule.
func sheetOf(t testing.TB, lines ...string) []api.Rule {
	t.Helper()
	l, err := rule.Read(strings.Join(lines, "\n") + "\n")
	if err != nil {
		t.Fatalf("%q: %v", lines, err)
	}
	return l
}

// begin a yard with some room and rules.
func begin(t testing.TB, many int, lines ...string) *Yard {
	t.Helper()
	y, err := New(many)
	if y == nil || err != nil {
		t.Fatalf("New(%d) is %v, %v", many, y, err)
	}
	if len(lines) > 0 {
		rules(t, y, lines...)
	}
	return y
}

// rules: a yard takes a sheet of these lines.
func rules(t testing.TB, y *Yard, lines ...string) {
	t.Helper()
	if err := y.Rules(sheetOf(t, lines...)); err != nil {
		t.Fatalf("Rules of %q: %v", lines, err)
	}
}

// put files into a tree: paths, each with its bytes behind it.
func put(t testing.TB, x *tree.Tree, pairs ...string) {
	t.Helper()
	for i := 0; i < len(pairs); i += 2 {
		if err := x.Put(pairs[i], pairs[i+1]); err != nil {
			t.Fatalf("Put(%q): %v", pairs[i], err)
		}
	}
}

// remove files of a tree.
func remove(t testing.TB, x *tree.Tree, paths ...string) {
	t.Helper()
	for _, p := range paths {
		if err := x.Remove(p); err != nil {
			t.Fatalf("Remove(%q): %v", p, err)
		}
	}
}

// holds: Out has just these files, each told as PATH=BYTES, and just these outs are stale; all with blanks between.
func holds(t *testing.T, y *Yard, out, stale string) {
	t.Helper()
	var files []string
	for _, p := range y.Out().Paths() {
		s, _ := y.Out().Get(p)
		files = append(files, p+"="+s)
	}
	if s := strings.Join(files, " "); s != out {
		t.Errorf("Out has %.300q, not %.300q", s, out)
	}
	if s := strings.Join(y.Stale(), " "); s != stale {
		t.Errorf("stale is %q, not %q", s, stale)
	}
}

// makes: a build of these outs, with blanks between, has this count.
func makes(t *testing.T, y *Yard, outs string, want build.Count) {
	t.Helper()
	if c, err := y.Make(strings.Fields(outs)); c != want || err != nil {
		t.Errorf("Make of %q is %+v, %v, not %+v", outs, c, err, want)
	}
}

// isFault: is an error a fault with just that place and that error?
func isFault(err error, at int, want error) bool {
	f, ok := err.(*api.Fault)
	return ok && f.At == at && f.Err == want
}

// P90: a yard begins with no files, no rules, nothing made.
func TestNew(t *testing.T) {
	for _, many := range []int{1, 2, 8, 99, api.MaxEntries} {
		y := begin(t, many)
		holds(t, y, "", "")
		if paths := y.Tree().Paths(); len(paths) > 0 {
			t.Errorf("files: %q", paths)
		}
		makes(t, y, "", build.Count{})
		holds(t, y, "", "")
	}
}

// P90: no yard but with room for 1 to MaxEntries; the error is bare.
func TestNewFaults(t *testing.T) {
	for _, many := range []int{math.MinInt, -100, -1, 0, api.MaxEntries + 1, 1000, math.MaxInt} {
		if y, err := New(many); y != nil || err != api.ErrBound {
			t.Errorf("New(%d) is %v, %v", many, y, err)
		}
	}
}

// P90, P91: the cache has just the room that was asked for.
func TestRoom(t *testing.T) {
	for many := 1; many <= api.MaxEntries; many++ {
		y := begin(t, many)
		var l []api.Rule
		for i := range min(many+1, api.MaxRules) {
			l = append(l, api.Rule{Out: fmt.Sprint("o", i), Kind: "write", Word: fmt.Sprint(i)})
		}
		if err := y.Rules(l[:min(many, len(l))]); err != nil {
			t.Fatal(err)
		}
		n := min(many, len(l))
		makes(t, y, "", build.Count{Ran: n})
		makes(t, y, "", build.Count{Hit: n})
		if n == len(l) {
			continue
		}
		if err := y.Rules(l); err != nil {
			t.Fatal(err)
		}
		// one more than there is room for: so each goes just ahead of its turn, once the last one has come
		makes(t, y, "", build.Count{Ran: 1, Hit: n})
		makes(t, y, "", build.Count{Ran: n + 1})
	}
}

// P90, P91: both trees are the yard's own, and stay the same ones, whatever is called.
func TestOwnTrees(t *testing.T) {
	y := begin(t, 2)
	files, out := y.Tree(), y.Out()
	if files == nil || out == nil || files == out {
		t.Fatalf("trees %p, %p", files, out)
	}
	put(t, files, "f", "x")
	rules(t, y, "a = upper f", "b = join a f")
	makes(t, y, "", build.Count{Ran: 2})
	y.Rules([]api.Rule{{}})
	y.Make([]string{"what"})
	y.Stale()
	if y.Tree() != files || y.Out() != out {
		t.Errorf("trees %p, %p, not %p, %p", y.Tree(), y.Out(), files, out)
	}
	// what is made does not go to the files
	if s := files.Text(); s != "f 1\nx\n" {
		t.Errorf("files: %q", s)
	}
	holds(t, y, "a=X b=Xx", "")
	put(t, files, "f", "z")
	holds(t, y, "a=X b=Xx", "a b")
	put(t, out, "a", "Z", "b", "Zz", "other", "o")
	holds(t, y, "a=Z b=Zz other=o", "")
}

// P90: Rules' errors, with the place where the document tells one; the sheet stays as it was.
func TestRulesFaults(t *testing.T) {
	y := begin(t, 4, "a = write \"1\"", "b = upper a")
	makes(t, y, "", build.Count{Ran: 2})
	remove(t, y.Out(), "b")
	var many []api.Rule
	for i := range api.MaxRules + 1 {
		many = append(many, api.Rule{Out: fmt.Sprint("o", i), Kind: "write"})
	}
	round := []api.Rule{{Out: "p", Kind: "upper", Inputs: []string{"q"}}, {Out: "q", Kind: "upper", Inputs: []string{"p"}}}
	ok := api.Rule{Out: "ok", Kind: "write"}
	for i, c := range []struct {
		l    []api.Rule
		at   int
		want error
	}{
		{many, -1, api.ErrBound},
		{append(slices.Clone(many), api.Rule{}), -1, api.ErrBound},
		{[]api.Rule{{}}, 0, api.ErrName},
		{[]api.Rule{ok, {Out: "A", Kind: "write"}}, 1, api.ErrName},
		{[]api.Rule{ok, {Out: "a", Kind: "what"}}, 1, api.ErrKind},
		{[]api.Rule{ok, {Out: "a", Kind: "upper"}}, 1, api.ErrShape},
		{[]api.Rule{ok, {Out: "a", Kind: "write", Word: strings.Repeat("w", 101)}}, 1, api.ErrLong},
		{[]api.Rule{ok, {Out: "a", Kind: "upper", Inputs: []string{"a/"}}}, 1, api.ErrName},
		{[]api.Rule{ok, {Out: "a", Kind: "upper", Inputs: []string{"a"}}}, 1, api.ErrExist},
		{[]api.Rule{ok, ok}, 1, api.ErrExist},
		{append(slices.Clone(round), ok, ok), 3, api.ErrExist},
		{round, -1, api.ErrCycle},
		{append([]api.Rule{ok}, round...), -1, api.ErrCycle},
	} {
		err := y.Rules(c.l)
		if c.at < 0 && err != c.want || c.at >= 0 && !isFault(err, c.at, c.want) {
			t.Errorf("%d: %v, not %d, %v", i, err, c.at, c.want)
		}
		holds(t, y, "a=1", "b")
	}
	makes(t, y, "", build.Count{Hit: 2})
	if err := y.Rules(many[:api.MaxRules]); err != nil {
		t.Error(err)
	}
	makes(t, y, "", build.Count{Ran: 1, Hit: api.MaxRules - 1})
}

// P90, P91: a new sheet takes the place of the old one; what lies in Out stays, but is of no rule any more.
func TestRulesAgain(t *testing.T) {
	y := begin(t, 8, "a = write \"1\"", "b = upper f")
	put(t, y.Tree(), "f", "x")
	makes(t, y, "", build.Count{Ran: 2})
	rules(t, y, "c = join a f", "b = upper a")
	holds(t, y, "a=1 b=X", "b")
	// a has no rule now, and what lies in Out is no file
	makes(t, y, "", build.Count{Failed: 2})
	holds(t, y, "a=1", "")
	if _, err := y.Make([]string{"a"}); !isFault(err, 0, api.ErrNone) {
		t.Error(err)
	}
	for _, none := range [][]api.Rule{nil, {}} {
		if err := y.Rules(none); err != nil {
			t.Error(err)
		}
		holds(t, y, "a=1", "")
		makes(t, y, "", build.Count{})
		holds(t, y, "a=1", "")
		rules(t, y, "a = write \"2\"")
		holds(t, y, "a=1", "a")
	}
}

// P4: what is handed over is only read, and not kept; what lies behind a list's length is neither read nor written.
func TestMemory(t *testing.T) {
	y := begin(t, 8)
	put(t, y.Tree(), "f", "x", "g", "y")
	l := sheetOf(t, "a = join \"+\" f g", "b = upper a", "bad = write", "bad2 = write")
	l[3].Out = ""
	l[0].Inputs = l[0].Inputs[:1]
	if err := y.Rules(l[:2]); err != nil {
		t.Fatal(err)
	}
	if l[0].Inputs[:2][1] != "g" || l[2].Out != "bad" {
		t.Errorf("the sheet became %q", l)
	}
	l[0].Word, l[0].Inputs[0], l[1].Out, l[1].Inputs[0] = "!", "g", "c", "g"
	holds(t, y, "", "a b")
	outs := []string{"a", "what", "b"}
	for _, c := range []struct {
		outs []string
		want build.Count
	}{{outs[:1], build.Count{Ran: 1}}, {outs[:0], build.Count{Ran: 1, Hit: 1}}, {outs[2:], build.Count{Hit: 2}}, {outs[3:], build.Count{Hit: 2}}} {
		if n, err := y.Make(c.outs); n != c.want || err != nil {
			t.Errorf("Make of %q is %+v, %v", c.outs, n, err)
		}
		if !slices.Equal(outs, []string{"a", "what", "b"}) {
			t.Fatalf("outs became %q", outs)
		}
	}
	holds(t, y, "a=x b=X", "")
}

// P4: a list of what is stale is the caller's own.
func TestStaleIsNew(t *testing.T) {
	y := begin(t, 1, "b = write", "a = write", "c = write")
	first, second := y.Stale(), y.Stale()
	first[0], first[2] = "z", "a"
	_ = append(first[:1], "y")
	holds(t, y, "", "a b c")
	makes(t, y, "", build.Count{Ran: 1, Hit: 2})
	if !reflect.DeepEqual(second, []string{"a", "b", "c"}) {
		t.Errorf("a list that was answered became %q", second)
	}
}

// P2: one yard knows nothing of another one.
func TestTwoYards(t *testing.T) {
	one, two := begin(t, 4, "a = upper f"), begin(t, 4, "a = upper f")
	put(t, one.Tree(), "f", "x")
	makes(t, one, "", build.Count{Ran: 1})
	holds(t, two, "", "")
	makes(t, two, "", build.Count{Failed: 1})
	put(t, two.Tree(), "f", "x")
	holds(t, two, "", "a")
	makes(t, two, "", build.Count{Ran: 1})
	put(t, two.Tree(), "f", "y")
	makes(t, two, "", build.Count{Ran: 1})
	holds(t, one, "a=X", "")
	holds(t, two, "a=Y", "")
}
