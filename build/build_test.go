package build

import (
	"fmt"
	"math"
	"slices"
	"strings"
	"testing"

	"kilnfield/api"
	"kilnfield/cache"
	"kilnfield/rule"
	"kilnfield/tree"
)

// sheetOf lines, each a rule.
func sheetOf(t testing.TB, lines ...string) []api.Rule {
	t.Helper()
	l, err := rule.Read(strings.Join(lines, "\n") + "\n")
	if err != nil {
		t.Fatalf("%q: %v", lines, err)
	}
	return l
}

// files: a tree of paths, each with its bytes behind it.
func files(t testing.TB, pairs ...string) *tree.Tree {
	t.Helper()
	x := tree.New()
	for i := 0; i < len(pairs); i += 2 {
		if err := x.Put(pairs[i], pairs[i+1]); err != nil {
			t.Fatal(err)
		}
	}
	return x
}

// room: a new cache.
func room(t testing.TB, many int) *cache.Cache {
	t.Helper()
	c, err := cache.New(many)
	if err != nil {
		t.Fatal(err)
	}
	return c
}

// begin a build that must be well.
func begin(t testing.TB, x *tree.Tree, l []api.Rule, c *cache.Cache, outs ...string) *Build {
	t.Helper()
	b, err := New(x, l, outs, c)
	if b == nil || err != nil {
		t.Fatalf("New of %q is %v, %v", outs, b, err)
	}
	return b
}

// states of n rules, a letter each; - for one that is not needed.
func states(b *Build, n int) string {
	var s strings.Builder
	for i := range n {
		s.WriteString((b.State(i) + "-")[:1])
	}
	return s.String()
}

// hold a build against its states, and what is ready.
func hold(t *testing.T, b *Build, want, ready string) {
	t.Helper()
	if s := states(b, len(want)); s != want || fmt.Sprint(b.Ready()) != ready {
		t.Fatalf("states %s, ready %v, not %s, %s", s, b.Ready(), want, ready)
	}
	if b.Over() != !strings.Contains(want, "w") {
		t.Fatalf("states %s, and Over is %v", want, b.Over())
	}
}

// runs: a rule runs, and is made anew, or had.
func runs(t *testing.T, b *Build, i int, want bool) {
	t.Helper()
	if had, err := b.Run(i); had != want || err != nil {
		t.Fatalf("Run(%d) is %v, %v, not %v", i, had, err, want)
	}
}

// refuses: a rule does not run; the error is bare, and nothing changes.
func refuses(t *testing.T, b *Build, i int, want error) {
	t.Helper()
	before := fmt.Sprint(states(b, 45), b.Ready(), b.Count(), b.Over())
	if had, err := b.Run(i); had || err != want {
		t.Fatalf("Run(%d) is %v, %v, not %v", i, had, err, want)
	}
	if after := fmt.Sprint(states(b, 45), b.Ready(), b.Count(), b.Over()); after != before {
		t.Fatalf("Run(%d): %s, not %s", i, after, before)
	}
}

// made: a rule is done, and has these bytes.
func made(t *testing.T, b *Build, i int, want string) {
	t.Helper()
	if s, is := b.Result(i); s != want || !is || b.State(i) != "done" || b.Why(i) != nil {
		t.Fatalf("Result(%d) is %.60q, %v, not %.60q; %s, %v", i, s, is, want, b.State(i), b.Why(i))
	}
}

// hasNone: a rule has no result, and failed for that cause, or for none.
func hasNone(t *testing.T, b *Build, i int, why error) {
	t.Helper()
	if s, is := b.Result(i); s != "" || is || b.Why(i) != why {
		t.Fatalf("Result(%d) is %.60q, %v; Why is %v, not %v", i, s, is, b.Why(i), why)
	}
}

// isFault: is an error a fault with just that place and that error?
func isFault(err error, at int, want error) bool {
	f, ok := err.(*api.Fault)
	return ok && f.At == at && f.Err == want
}

// beyond: numbers that are none of a sheet's.
func beyond(n int) []int {
	return []int{-1, -2, n, n + 1, 1000, math.MinInt, math.MaxInt}
}

// P70: the rules that are needed wait, at whatever depth, and only these; those that need none are ready.
func TestNew(t *testing.T) {
	l := sheetOf(t, "a = upper b", "b = join d e x", "c = upper d", "d = write \"1\"", "e = upper x", "f = upper g", "g = upper f")
	for _, c := range []struct{ outs, want, ready string }{
		{"", "-------", "[]"},
		{"d", "---w---", "[3]"},
		{"e", "----w--", "[4]"},
		{"c", "--ww---", "[3]"},
		{"b", "-w-ww--", "[3 4]"},
		{"a", "ww-ww--", "[3 4]"},
		{"a a b", "ww-ww--", "[3 4]"},
		{"c e", "--www--", "[3 4]"},
		{"a c", "wwwww--", "[3 4]"},
		{"e d", "---ww--", "[3 4]"},
	} {
		b := begin(t, tree.New(), l, nil, strings.Fields(c.outs)...)
		hold(t, b, c.want, c.ready)
		if n := b.Count(); n != (Count{}) {
			t.Errorf("%q: %v", c.outs, n)
		}
		for i := range l {
			hasNone(t, b, i, nil)
		}
	}
}

// P70: no rules, or no outs: nothing waits.
func TestNothing(t *testing.T) {
	x, l := tree.New(), sheetOf(t, "a = write")
	for i, b := range []*Build{
		begin(t, x, nil, nil),
		begin(t, x, []api.Rule{}, nil, []string{}...),
		begin(t, x, l, room(t, 1)),
		begin(t, &tree.Tree{}, l, &cache.Cache{}, []string{}...),
	} {
		hold(t, b, "-", "[]")
		if n := b.All(); n != (Count{}) || len(b.Ready()) > 0 {
			t.Errorf("%d: %v", i, n)
		}
		refuses(t, b, 0, api.ErrNone)
	}
}

// P70: each error, in the order in which the document names them, and no build with it.
func TestNewFaults(t *testing.T) {
	x := tree.New()
	round := sheetOf(t, "a = upper b", "b = upper a", "c = upper a", "d = write")
	many := make([]api.Rule, api.MaxRules+1)
	twice := sheetOf(t, "a = upper b", "b = upper a")
	twice[1].Out, twice[1].Inputs = "a", []string{"c"}
	for i, c := range []struct {
		x    *tree.Tree
		l    []api.Rule
		outs []string
		at   int
		want error
	}{
		{nil, nil, nil, -1, api.ErrShape},
		{nil, many, []string{"what"}, -1, api.ErrShape},
		{nil, round, []string{"a"}, -1, api.ErrShape},
		{x, many, []string{"what"}, -1, api.ErrBound},
		{x, []api.Rule{{}}, []string{"what"}, 0, api.ErrName},
		{x, append(slices.Clone(round), api.Rule{Out: "e", Kind: "none"}), []string{"a"}, 4, api.ErrKind},
		{x, append(slices.Clone(round), api.Rule{Out: "e", Kind: "upper"}), nil, 4, api.ErrShape},
		{x, twice, []string{"a"}, 1, api.ErrExist},
		{x, nil, []string{"a"}, 0, api.ErrNone},
		{x, round, []string{"d", "a", "what", "else"}, 2, api.ErrNone},
		{x, round, []string{""}, 0, api.ErrNone},
		{x, round, []string{"a"}, -1, api.ErrCycle},
		{x, round, []string{"b"}, -1, api.ErrCycle},
		{x, round, []string{"d", "c"}, -1, api.ErrCycle},
	} {
		keys := room(t, 1)
		keys.Put("k", "")
		b, err := New(c.x, c.l, c.outs, keys)
		if b != nil || c.at < 0 && err != c.want || c.at >= 0 && !isFault(err, c.at, c.want) {
			t.Errorf("%d: %v, %v, not %v at %d", i, b, err, c.want, c.at)
		}
		if fmt.Sprint(keys.Keys()) != "[k]" {
			t.Errorf("%d: keys %q", i, keys.Keys())
		}
	}
}

// P1, P70: what New answers with an error can be asked, and has nothing; numbers that are none of the sheet's have nothing either.
func TestNone(t *testing.T) {
	none, err := New(nil, nil, nil, nil)
	if err == nil {
		t.Fatal("nil is a tree")
	}
	l := sheetOf(t, "a = write", "b = write")
	b := begin(t, tree.New(), l, nil, "b")
	b.All()
	for _, i := range append(beyond(2), 0) {
		for _, x := range []*Build{none, b} {
			refuses(t, x, i, api.ErrNone)
			hasNone(t, x, i, nil)
			if s := x.State(i); s != "" {
				t.Errorf("State(%d) is %q", i, s)
			}
		}
	}
	if n := none.All(); n != (Count{}) || none.Count() != n || !none.Over() || len(none.Ready()) > 0 {
		t.Errorf("%v, %v, %v, %v", n, none.Count(), none.Over(), none.Ready())
	}
}

// P70: the states have just these names.
func TestStateNames(t *testing.T) {
	b := begin(t, tree.New(), sheetOf(t, "a = write", "b = upper x", "c = upper b", "d = write", "e = write"), nil, "a", "c", "d")
	runs(t, b, 0, false)
	runs(t, b, 1, false)
	for i, want := range []string{"done", "failed", "left", "waits", ""} {
		if s := b.State(i); s != want {
			t.Errorf("State(%d) is %q, not %q", i, s, want)
		}
	}
}

// P70, P4: the tree is looked at as it is at New; what becomes of it, or of the lists, does not show.
func TestThen(t *testing.T) {
	x := files(t, "f", "old", "g", "stays")
	l := sheetOf(t, "a = join \"+\" f g", "b = upper late", "c = join a f", "d = write \"d\"")
	outs := []string{"c", "b"}
	b := begin(t, x, l, nil, outs...)
	for _, err := range []error{x.Put("f", "new"), x.Remove("g"), x.Put("late", "late")} {
		if err != nil {
			t.Fatal(err)
		}
	}
	l[0].Inputs[0], l[0].Word, l[0].Kind = "late", "-", "sort"
	l[1], l[2], l[3], outs[0] = api.Rule{}, api.Rule{}, api.Rule{}, "d"
	hold(t, b, "www-", "[0 1]")
	if n := b.All(); n != (Count{Ran: 2, Failed: 1}) {
		t.Errorf("%v", n)
	}
	made(t, b, 0, "old+stays")
	made(t, b, 2, "old+staysold")
	hasNone(t, b, 1, api.ErrNone)
	if s := x.Text(); s != files(t, "f", "new", "late", "late").Text() {
		t.Errorf("the tree is %q", s)
	}
}

// P4: what Ready answers is new memory; what lies behind the length of a list is neither read nor written.
func TestMemory(t *testing.T) {
	l := sheetOf(t, "a = write", "b = write", "c = write", "d = join x y")
	l[3].Inputs = l[3].Inputs[:1]
	outs := []string{"a", "b", "d", "what"}
	b := begin(t, files(t, "x", "1", "y", "2"), l[:4:4], nil, outs[:3]...)
	b.Ready()[0] = 99
	_ = append(b.Ready()[:1], 98, 97)
	hold(t, b, "ww-w", "[0 1 3]")
	b.All()
	made(t, b, 3, "1")
	if s := fmt.Sprint(l[3].Inputs[:2], outs); s != "[x y] [a b d what]" {
		t.Errorf("%s", s)
	}
	hold(t, begin(t, tree.New(), l[:2], nil, "a"), "w---", "[0]")
}

// P71: rules run in an order that fits; each step changes what is ready, and a rule that may not run says why.
func TestRun(t *testing.T) {
	l := sheetOf(t, "all = join \"+\" x y", "x = upper f", "y = sort z", "z = lines \"b\" g", "w = write \"w\"", "bad = upper none", "too = upper bad", "end = join too x")
	b := begin(t, files(t, "f", "abc", "g", "b2\nb1\nc"), l, nil, "all", "end")
	hold(t, b, "wwww-www", "[1 3 5]")
	for _, i := range []int{0, 2, 6, 7} {
		refuses(t, b, i, api.ErrTurn)
	}
	for _, i := range append(beyond(8), 4) {
		refuses(t, b, i, api.ErrNone)
	}
	runs(t, b, 3, false)
	hold(t, b, "wwwd-www", "[1 2 5]")
	refuses(t, b, 3, api.ErrDone)
	refuses(t, b, 0, api.ErrTurn)
	runs(t, b, 5, false)
	hold(t, b, "wwwd-fll", "[1 2]")
	for _, i := range []int{3, 5, 6, 7} {
		refuses(t, b, i, api.ErrDone)
	}
	runs(t, b, 2, false)
	hold(t, b, "wwdd-fll", "[1]")
	refuses(t, b, 0, api.ErrTurn)
	runs(t, b, 1, false)
	hold(t, b, "wddd-fll", "[0]")
	runs(t, b, 0, false)
	hold(t, b, "dddd-fll", "[]")
	refuses(t, b, 0, api.ErrDone)
	for i, want := range []string{"ABC+b1\nb2\n", "ABC", "b1\nb2\n", "b2\nb1\n"} {
		made(t, b, i, want)
	}
	hasNone(t, b, 4, nil)
	hasNone(t, b, 5, api.ErrNone)
	hasNone(t, b, 6, nil)
	hasNone(t, b, 7, nil)
	if n := b.Count(); n != (Count{Ran: 4, Failed: 1, Left: 2}) {
		t.Errorf("%v", n)
	}
}

// P71: an input that a rule makes is its result, also if the tree has a file there; others are the tree's, in the order of the rule.
func TestInputs(t *testing.T) {
	x := files(t, "a", "file a", "b", "file b", "c/d", "deep", "e", "")
	l := sheetOf(t, "a = write \"rule a\"", "o = join \"|\" b a c/d e", "p = count o a", "q = join \",\" a b c/d e o p f g", "f = write", "g = upper e")
	b := begin(t, x, l, nil, "q")
	if n := b.All(); n != (Count{Ran: 6}) {
		t.Fatalf("%v", n)
	}
	made(t, b, 0, "rule a")
	made(t, b, 1, "file b|rule a|deep|")
	made(t, b, 2, "2 25\n")
	made(t, b, 3, "rule a,file b,deep,,file b|rule a|deep|,2 25\n,,")
	made(t, b, 4, "")
	made(t, b, 5, "")
}

// P71: a folder is no file, nor is what lies nowhere; the cache is not asked then.
func TestNoFile(t *testing.T) {
	for _, in := range []string{"c", "none", "c/d/e", "f none", "none f"} {
		c := room(t, 3)
		c.Put(cache.Key("join", "", nil), "wrong")
		c.Put(cache.Key("join", "", []string{""}), "wrong")
		c.Put(cache.Key("join", "", []string{"f"}), "wrong")
		keys := fmt.Sprint(c.Keys())
		b := begin(t, files(t, "c/d", "x", "f", "f"), sheetOf(t, "a = join "+in, "b = upper a"), c, "b")
		runs(t, b, 0, false)
		hold(t, b, "fl", "[]")
		hasNone(t, b, 0, api.ErrNone)
		if fmt.Sprint(c.Keys()) != keys {
			t.Errorf("%q: %q", in, c.Keys())
		}
	}
}

// P71: what a command makes is too long: the rule has failed, and nothing goes into the cache.
func TestTooLong(t *testing.T) {
	half := strings.Repeat("x", api.MaxBytes/2)
	l := sheetOf(t, "a = join f g", "b = join \"+\" f g", "c = upper b", "d = join a c")
	for _, c := range []*cache.Cache{nil, room(t, 10)} {
		b := begin(t, files(t, "f", half, "g", half), l, c, "d")
		if n := b.All(); n != (Count{Ran: 1, Failed: 1, Left: 2}) {
			t.Errorf("%v", n)
		}
		hold(t, b, "dfll", "[]")
		made(t, b, 0, half+half)
		hasNone(t, b, 1, api.ErrLong)
		hasNone(t, b, 2, nil)
		if c.Len() > 1 || c != nil && c.Keys()[0] != cache.Key("join", "", []string{half, half}) {
			t.Errorf("%.60q", c.Keys())
		}
	}
}

// P71: what failed leaves all that need it, at whatever depth, and nothing else; what else these need goes on.
func TestLeft(t *testing.T) {
	l := sheetOf(t, "a = join b c", "b = upper d", "c = upper e", "d = upper none", "e = write \"e\"", "f = upper c", "g = join a f", "h = upper nor")
	b := begin(t, tree.New(), l, nil, "g", "h")
	hold(t, b, "wwwwwwww", "[3 4 7]")
	runs(t, b, 3, false)
	hold(t, b, "llwfwwlw", "[4 7]")
	runs(t, b, 7, false)
	hold(t, b, "llwfwwlf", "[4]")
	if n := b.All(); n != (Count{Ran: 3, Failed: 2, Left: 3}) {
		t.Errorf("%v", n)
	}
	hold(t, b, "lldfddlf", "[]")
	made(t, b, 5, "E")
}

// P71: two that fail leave a rule that needs both, once.
func TestLeftTwice(t *testing.T) {
	l := sheetOf(t, "a = upper x", "b = upper y", "c = join a b", "d = upper c", "e = join b d")
	for _, order := range [][]int{{0, 1}, {1, 0}} {
		b := begin(t, tree.New(), l, nil, "e")
		for _, i := range order {
			runs(t, b, i, false)
		}
		hold(t, b, "fflll", "[]")
		if n := b.Count(); n != (Count{Failed: 2, Left: 3}) {
			t.Errorf("%v", n)
		}
	}
}

// P1, P71: a call ends soon, however many ways lead from what failed to what needs it.
func TestManyWays(t *testing.T) {
	l := []api.Rule{{Out: "o0", Kind: "upper", Inputs: []string{"none"}}}
	for i := 1; i < api.MaxRules; i++ {
		r := api.Rule{Out: fmt.Sprint("o", i), Kind: "count"}
		for j := max(0, i-api.MaxInputs); j < i; j++ {
			r.Inputs = append(r.Inputs, l[j].Out)
		}
		l = append(l, r)
	}
	last := l[len(l)-1].Out
	if n := begin(t, tree.New(), l, nil, last).All(); n != (Count{Failed: 1, Left: api.MaxRules - 1}) {
		t.Errorf("%v", n)
	}
	if n := begin(t, files(t, "none", ""), l, nil, last).All(); n != (Count{Ran: api.MaxRules}) {
		t.Errorf("%v", n)
	}
}

// P71: what was made goes into the cache by its key, and is had from there; a key that is had is the last one then.
func TestCache(t *testing.T) {
	c := room(t, 10)
	l := sheetOf(t, "b = upper a", "c = join \"+\" b a", "d = upper a", "e = write")
	x := files(t, "a", "x")
	b := begin(t, x, l, c, "c", "d")
	runs(t, b, 0, false)
	runs(t, b, 2, true)
	runs(t, b, 1, false)
	if n := b.Count(); n != (Count{Ran: 2, Hit: 1}) {
		t.Errorf("%v", n)
	}
	up, join := cache.Key("upper", "", []string{"x"}), cache.Key("join", "+", []string{"X", "x"})
	if fmt.Sprint(c.Keys()) != fmt.Sprint([]string{up, join}) {
		t.Errorf("%q", c.Keys())
	}
	d := begin(t, x, l, c, "b", "e")
	runs(t, d, 0, true)
	made(t, d, 0, "X")
	runs(t, d, 3, false)
	made(t, d, 3, "")
	if fmt.Sprint(c.Keys()) != fmt.Sprint([]string{join, up, cache.Key("write", "", nil)}) {
		t.Errorf("%q", c.Keys())
	}
	e := begin(t, x, l, c, "e")
	runs(t, e, 3, true)
	made(t, e, 3, "")
	for _, i := range []int{0, 3} {
		refuses(t, d, i, api.ErrDone)
	}
	if fmt.Sprint(c.Keys()) != fmt.Sprint([]string{join, up, cache.Key("write", "", nil)}) {
		t.Errorf("%q", c.Keys())
	}
}

// P71: the cache is asked ahead of the command: what it has is the result, whatever it is, also for what would fail.
func TestCacheFirst(t *testing.T) {
	half := strings.Repeat("x", api.MaxBytes/2+1)
	c := room(t, 2)
	c.Put(cache.Key("join", "", []string{half, half}), "short")
	b := begin(t, files(t, "f", half), sheetOf(t, "a = join f b", "b = join f"), c, "a")
	if n := b.All(); n != (Count{Ran: 1, Hit: 1}) {
		t.Errorf("%v", n)
	}
	made(t, b, 0, "short")
}

// P71: the files changed: what hangs on them is made anew, the rest is had.
func TestAgain(t *testing.T) {
	c := room(t, 10)
	l := sheetOf(t, "all = join \"+\" x y", "x = upper f", "y = sort z", "z = lines \"b\" g")
	x := files(t, "f", "abc", "g", "b2\nb1\nc")
	for i, want := range []Count{{Ran: 4}, {Hit: 4}} {
		if n := begin(t, x, l, c, "all").All(); n != want {
			t.Errorf("%d: %v", i, n)
		}
	}
	x.Put("f", "new")
	b := begin(t, x, l, c, "all")
	if n := b.All(); n != (Count{Ran: 2, Hit: 2}) {
		t.Errorf("%v", n)
	}
	made(t, b, 0, "NEW+b1\nb2\n")
	// g changes where z does not look: so y and all are had
	x.Put("g", "b2\nb1\nd")
	if n := begin(t, x, l, c, "all").All(); n != (Count{Ran: 1, Hit: 3}) {
		t.Errorf("%v", n)
	}
	if n := begin(t, x, l, nil, "all").All(); n != (Count{Ran: 4}) {
		t.Errorf("%v", n)
	}
}

// P72: All runs the least one that is ready, again and again: the keys tell in which order.
func TestAllOrder(t *testing.T) {
	c := room(t, 10)
	l := sheetOf(t, "a = join \"0\" d b", "b = join \"1\" e", "c = join \"2\" x", "d = write \"3\"", "e = write \"4\"", "f = join \"5\" x")
	b := begin(t, files(t, "x", "x"), l, c, "a", "c", "f")
	if n := b.All(); n != (Count{Ran: 6}) || b.Count() != n || !b.Over() {
		t.Errorf("%v, %v", n, b.Count())
	}
	want := []string{
		cache.Key("join", "2", []string{"x"}), cache.Key("write", "3", nil), cache.Key("write", "4", nil),
		cache.Key("join", "1", []string{"4"}), cache.Key("join", "0", []string{"3", "4"}), cache.Key("join", "5", []string{"x"}),
	}
	if !slices.Equal(c.Keys(), want) {
		t.Errorf("%q, not %q", c.Keys(), want)
	}
	if n := b.All(); n != (Count{Ran: 6}) || !slices.Equal(c.Keys(), want) {
		t.Errorf("again: %v, %q", n, c.Keys())
	}
}

// P72: All goes on from where a build stands, and counts what was ahead.
func TestAllFromWithin(t *testing.T) {
	c := room(t, 10)
	l := sheetOf(t, "a = upper x", "b = upper a", "c = upper none", "d = upper x", "e = join c b")
	b := begin(t, files(t, "x", "x"), l, c, "b", "d", "e")
	runs(t, b, 3, false)
	runs(t, b, 2, false)
	if n := b.Count(); n != (Count{Ran: 1, Failed: 1, Left: 1}) || b.Over() {
		t.Errorf("%v", n)
	}
	if n := b.All(); n != (Count{Ran: 2, Hit: 1, Failed: 1, Left: 1}) {
		t.Errorf("%v", n)
	}
	hold(t, b, "ddfdl", "[]")
	if had, _ := b.Run(0); had {
		t.Error("what was had is told again")
	}
}

// P72: two builds at one time with one cache have nothing else in common.
func TestTwoBuilds(t *testing.T) {
	c := room(t, 10)
	l := sheetOf(t, "a = upper x", "b = upper a")
	one := begin(t, files(t, "x", "1"), l, c, "b")
	two := begin(t, files(t, "x", "2"), l, c, "b")
	runs(t, one, 0, false)
	hold(t, two, "ww", "[0]")
	runs(t, two, 0, false)
	runs(t, two, 1, true)
	runs(t, one, 1, true)
	made(t, one, 1, "1")
	made(t, two, 1, "2")
}

// P71, P72: the document's own example.
func TestExample(t *testing.T) {
	c := room(t, 8)
	l := sheetOf(t, "b = upper a")
	x := files(t, "a", "x")
	for i, want := range []Count{{Ran: 1}, {Hit: 1}} {
		b := begin(t, x, l, c, "b")
		if n := b.All(); n != want {
			t.Errorf("%d: %v", i, n)
		}
		made(t, b, 0, "X")
	}
}
