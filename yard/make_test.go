package yard

import (
	"fmt"
	"strings"
	"testing"

	"kilnfield/api"
	"kilnfield/build"
)

// P91: a build of some outs makes what these need, at whatever depth, and leaves the rest of Out as it is.
func TestMakeSome(t *testing.T) {
	y := begin(t, 20, "d = join \"-\" c f", "c = upper b", "b = join f g", "e = upper g", "w = write \"w\"")
	put(t, y.Tree(), "f", "x", "g", "y")
	holds(t, y, "", "b c d e w")
	makes(t, y, "e", build.Count{Ran: 1})
	holds(t, y, "e=Y", "b c d w")
	makes(t, y, "c e c", build.Count{Ran: 2, Hit: 1})
	holds(t, y, "b=xy c=XY e=Y", "d w")
	put(t, y.Tree(), "g", "z")
	holds(t, y, "b=xy c=XY e=Y", "b c d e w")
	makes(t, y, "d", build.Count{Ran: 3})
	holds(t, y, "b=xz c=XZ d=XZ-x e=Y", "e w")
	makes(t, y, "", build.Count{Ran: 2, Hit: 3})
	holds(t, y, "b=xz c=XZ d=XZ-x e=Z w=w", "")
	// what was made once of the same bytes is had, also of files as they were
	put(t, y.Tree(), "g", "y")
	holds(t, y, "b=xz c=XZ d=XZ-x e=Z w=w", "b c d e")
	makes(t, y, "", build.Count{Ran: 1, Hit: 4})
	holds(t, y, "b=xy c=XY d=XY-x e=Y w=w", "")
}

// P91: the document's own example, in a yard.
func TestMakeTwice(t *testing.T) {
	y := begin(t, 1, "b = upper a")
	put(t, y.Tree(), "a", "x")
	makes(t, y, "b", build.Count{Ran: 1})
	holds(t, y, "b=X", "")
	makes(t, y, "b", build.Count{Hit: 1})
	holds(t, y, "b=X", "")
}

// P91: what has failed, or is left, is removed; only of those that were needed.
func TestMakeFails(t *testing.T) {
	y := begin(t, 20, "d = join \"-\" c e", "c = upper b", "b = join f g", "e = upper g", "h = upper f")
	put(t, y.Tree(), "f", "x", "g", "y")
	makes(t, y, "", build.Count{Ran: 5})
	full := "b=xy c=XY d=XY-Y e=Y h=X"
	holds(t, y, full, "")
	remove(t, y.Tree(), "f")
	holds(t, y, full, "b c d h")
	makes(t, y, "e", build.Count{Hit: 1})
	holds(t, y, full, "b c d h")
	makes(t, y, "c", build.Count{Failed: 1, Left: 1})
	holds(t, y, "d=XY-Y e=Y h=X", "d h")
	makes(t, y, "d", build.Count{Hit: 1, Failed: 1, Left: 2})
	holds(t, y, "e=Y h=X", "h")
	makes(t, y, "", build.Count{Hit: 1, Failed: 2, Left: 2})
	holds(t, y, "e=Y", "")
	// once more: there is nothing to be removed
	makes(t, y, "", build.Count{Hit: 1, Failed: 2, Left: 2})
	holds(t, y, "e=Y", "")
	put(t, y.Tree(), "f", "x")
	holds(t, y, "e=Y", "b c d h")
	makes(t, y, "", build.Count{Hit: 5})
	holds(t, y, full, "")
}

// P91: what becomes too long fails like what has no file.
func TestMakeTooLong(t *testing.T) {
	half := strings.Repeat("x", api.MaxBytes/2)
	y := begin(t, 8, "n = count a", "a = join f g")
	put(t, y.Tree(), "f", half, "g", half)
	makes(t, y, "", build.Count{Ran: 2})
	holds(t, y, "a="+half+half+" n=1 2000\n", "")
	put(t, y.Tree(), "g", half+"x")
	holds(t, y, "a="+half+half+" n=1 2000\n", "a n")
	makes(t, y, "n", build.Count{Failed: 1, Left: 1})
	holds(t, y, "", "")
}

// P91: a file that lies where a rule makes one is not asked, and neither is Out.
func TestMakeAsksRules(t *testing.T) {
	y := begin(t, 8, "b = upper a", "a = join f", "c = upper g")
	put(t, y.Tree(), "a", "file", "f", "x")
	put(t, y.Out(), "a", "out", "f", "out", "g", "out")
	holds(t, y, "a=out f=out g=out", "a b")
	makes(t, y, "b", build.Count{Ran: 2})
	holds(t, y, "a=x b=X f=out g=out", "")
	makes(t, y, "c", build.Count{Failed: 1})
	holds(t, y, "a=x b=X f=out g=out", "")
}

// P91: what Out does not take is left out, and stale, until there is a place for it.
func TestMakeNotTaken(t *testing.T) {
	y := begin(t, 8, "p/q = write \"1\"", "v = upper p/q", "r = write \"3\"")
	put(t, y.Out(), "p", "old", "r/s/t", "old")
	makes(t, y, "", build.Count{Ran: 3})
	holds(t, y, "p=old r/s/t=old v=1", "p/q r")
	makes(t, y, "p/q", build.Count{Hit: 1})
	holds(t, y, "p=old r/s/t=old v=1", "p/q r")
	remove(t, y.Out(), "p", "r/s/t")
	holds(t, y, "v=1", "p/q r")
	makes(t, y, "", build.Count{Hit: 3})
	holds(t, y, "p/q=1 r=3 v=1", "")
}

// P91: of results that do not lie beside each other the one that comes first by graph.Order is laid, whatever the order of the sheet, of the outs, or of the runs.
func TestMakeOrder(t *testing.T) {
	for _, c := range []struct {
		lines      []string
		outs       string
		out, stale string
	}{
		{[]string{"p/q = write \"1\"", "p = write \"2\"", "p/r = write \"3\""}, "", "p/q=1 p/r=3", "p"},
		{[]string{"p = write \"2\"", "p/q = write \"1\"", "p/r = write \"3\""}, "", "p=2", "p/q p/r"},
		{[]string{"p = write \"2\"", "p/q = write \"1\"", "p/r = write \"3\""}, "p/r p/q p", "p=2", "p/q p/r"},
		{[]string{"p = write \"2\"", "p/q = write \"1\"", "p/r = write \"3\""}, "p/r p/q", "p/q=1 p/r=3", "p"},
		{[]string{"p = join z", "p/q = write \"1\"", "z = write \"z\""}, "", "p/q=1 z=z", "p"},
		{[]string{"p = join p/q", "p/q = write \"1\""}, "", "p/q=1", "p"},
		{[]string{"p/q = join z", "y = write", "p = write \"2\"", "z = write"}, "", "p=2 y= z=", "p/q"},
		{[]string{"p = join none", "p/q = write \"1\""}, "", "p/q=1", ""},
	} {
		y := begin(t, 8, c.lines...)
		if _, err := y.Make(strings.Fields(c.outs)); err != nil {
			t.Fatal(err)
		}
		holds(t, y, c.out, c.stale)
	}
}

// P91: results are laid ahead of the removals: what goes makes a place for the next build alone, wherever the two rules stand.
func TestLaidAheadOfRemovals(t *testing.T) {
	for _, lines := range [][]string{{"p = upper f", "p/q = write \"1\""}, {"p/q = write \"1\"", "p = upper f"}} {
		y := begin(t, 8, lines...)
		put(t, y.Tree(), "f", "x")
		makes(t, y, "p", build.Count{Ran: 1})
		remove(t, y.Tree(), "f")
		makes(t, y, "", build.Count{Ran: 1, Failed: 1})
		holds(t, y, "", "p/q")
		makes(t, y, "", build.Count{Hit: 1, Failed: 1})
		holds(t, y, "p/q=1", "")
	}
}

// P91: a full Out takes no other files, but other bytes for those that it has.
func TestMakeFull(t *testing.T) {
	y := begin(t, 20, "d = join a b c", "a = write \"a\"", "b = write \"b\"", "c = write \"c\"", "f7 = upper d", "e = upper none")
	for i := range api.MaxFiles - 2 {
		put(t, y.Out(), fmt.Sprint("f", i), "f")
	}
	makes(t, y, "", build.Count{Ran: 5, Failed: 1})
	if got := len(y.Out().Paths()); got != api.MaxFiles {
		t.Errorf("%d files", got)
	}
	for p, want := range map[string]string{"a": "a", "b": "b", "f7": "ABC", "f8": "f"} {
		if s, is := y.Out().Get(p); s != want || !is {
			t.Errorf("%s is %q, %v", p, s, is)
		}
	}
	if s := fmt.Sprint(y.Stale()); s != "[c d]" {
		t.Errorf("stale is %s", s)
	}
}

// P91, P3: an out that no rule makes: the place of the first one, no count, and nothing is made.
func TestMakeFaults(t *testing.T) {
	y := begin(t, 8, "a = upper f", "b = write")
	put(t, y.Tree(), "f", "x")
	put(t, y.Out(), "a", "old")
	for _, c := range []struct {
		outs []string
		at   int
	}{
		{[]string{"what"}, 0}, {[]string{"f"}, 0}, {[]string{""}, 0}, {[]string{"a", "b", "", "what"}, 2},
		{[]string{"a", "a/"}, 1}, {[]string{"b", "./a", "a"}, 1}, {[]string{"a", "\xff"}, 1},
	} {
		if n, err := y.Make(c.outs); n != (build.Count{}) || !isFault(err, c.at, api.ErrNone) {
			t.Errorf("Make of %q is %+v, %v", c.outs, n, err)
		}
		holds(t, y, "a=old", "a b")
	}
	// the cache has nothing of them either
	makes(t, y, "", build.Count{Ran: 2})
	empty := begin(t, 8)
	if n, err := empty.Make([]string{"a"}); n != (build.Count{}) || !isFault(err, 0, api.ErrNone) {
		t.Errorf("%+v, %v", n, err)
	}
}

// P91: stale is: other bytes, none where some are wanted, some where there is an error; not: neither. By rules alone, rising byte by byte.
func TestStale(t *testing.T) {
	y := begin(t, 8, "b/c = write \"1\"", "b-c = write \"1\"", "bc = write \"1\"", "bad = upper none", "bad2 = upper bad", "bad3 = count none f", "a = write", "e = write")
	put(t, y.Tree(), "f", "x")
	put(t, y.Out(), "b-c", "2", "b/c", "1", "bad", "", "bad3", "0 0\n", "e", "", "f", "?", "none", "?")
	if s := fmt.Sprint(y.Stale()); s != "[a b-c bad bad3 bc]" {
		t.Errorf("stale is %s", s)
	}
	put(t, y.Out(), "a", "", "b-c", "1 ", "bad2", "")
	remove(t, y.Out(), "b/c", "bad")
	if s := fmt.Sprint(y.Stale()); s != "[b-c b/c bad2 bad3 bc]" {
		t.Errorf("stale is %s", s)
	}
	makes(t, y, "", build.Count{Ran: 2, Hit: 3, Failed: 2, Left: 1})
	holds(t, y, "a= b-c=1 b/c=1 bc=1 e= f=? none=?", "")
}

// P91, P2: asking what is stale changes nothing: neither Out, nor what the cache has, nor what goes from it next.
func TestStaleOnlyAsks(t *testing.T) {
	y := begin(t, 2, "a = write \"1\"", "b = write \"2\"", "c = write \"3\"")
	holds(t, y, "", "a b c")
	makes(t, y, "a", build.Count{Ran: 1})
	makes(t, y, "b", build.Count{Ran: 1})
	for range 3 {
		holds(t, y, "a=1 b=2", "c")
	}
	makes(t, y, "a", build.Count{Hit: 1})
	holds(t, y, "a=1 b=2", "c")
	makes(t, y, "c", build.Count{Ran: 1})
	holds(t, y, "a=1 b=2 c=3", "")
	makes(t, y, "a", build.Count{Hit: 1})
	makes(t, y, "b", build.Count{Ran: 1})
}
