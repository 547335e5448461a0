package want

import (
	"fmt"
	"math/rand"
	"slices"
	"strings"
	"testing"

	"kilnfield/act"
	"kilnfield/api"
	"kilnfield/build"
	"kilnfield/cache"
	"kilnfield/graph"
	"kilnfield/tree"
)

// P81: the tree's own files, and what all rules make; a file that a rule makes, too, is the rule's.
func TestAll(t *testing.T) {
	x := files(t, "f", "abc", "x", "file x", "d/e", "")
	l := sheetOf(t, "all = join \"+\" x y f", "x = upper f", "y = swap \"B=--\" x", "d/g = write \"g\"", "empty = write")
	lays(t, x, l, files(t, "f", "abc", "d/e", "", "x", "ABC", "y", "A--C", "all", "ABC+A--C+abc", "d/g", "g", "empty", ""))
}

// P81: no rules, no files, or neither.
func TestAllOfNothing(t *testing.T) {
	x := files(t, "f", "abc", "d/e", "")
	lays(t, x, nil, x)
	lays(t, x, []api.Rule{}, x)
	lays(t, tree.New(), nil, tree.New())
	lays(t, &tree.Tree{}, nil, tree.New())
	lays(t, &tree.Tree{}, sheetOf(t, "b = upper a", "a = write \"a\""), files(t, "a", "a", "b", "A"))
}

// P81: what has an error is left out, and a file that lies there stays as it is; the others are made.
func TestAllErrors(t *testing.T) {
	half := strings.Repeat("x", api.MaxBytes/2+1)
	l := sheetOf(t, "bad = upper none", "too = join bad f", "f2 = join f", "big = join f f2", "kept = upper bad", "n = count f kept2", "kept2 = upper old")
	lays(t, files(t, "f", half, "kept", "old file", "big", "small", "old", "o"), l,
		files(t, "f", half, "kept", "old file", "big", "small", "old", "o", "f2", half, "n", "2 1002\n", "kept2", "O"))
}

// P81: what the tree does not take is left out: what lies above a file, or below one; but its bytes are wanted all the same.
func TestAllNotTaken(t *testing.T) {
	x := files(t, "f", "abc", "d/e", "e")
	l := sheetOf(t, "f/a = write \"w\"", "d = write \"d\"", "o = join f/a d d/e", "d/e/f/g = write", "d/h = write \"h\"")
	lays(t, x, l, files(t, "f", "abc", "d/e", "e", "o", "wde", "d/h", "h"))
}

// P81: of outs that do not lie beside each other the one that comes first by graph.Order is laid, not the first of the sheet.
func TestAllOrder(t *testing.T) {
	lays(t, tree.New(), sheetOf(t, "p/q = write \"1\"", "p = write \"2\"", "p/r = write \"3\""), files(t, "p/q", "1", "p/r", "3"))
	lays(t, tree.New(), sheetOf(t, "p = write \"2\"", "p/q = write \"1\"", "p/r = write \"3\""), files(t, "p", "2"))
	lays(t, tree.New(), sheetOf(t, "p = join z", "p/q = write \"1\"", "z = write \"z\"", "p/r = write"), files(t, "p/q", "1", "p/r", "", "z", "z"))
	lays(t, tree.New(), sheetOf(t, "p = join p/q", "p/q = write \"1\""), files(t, "p/q", "1"))
	// one that has an error takes no place
	lays(t, tree.New(), sheetOf(t, "p = join none", "p/q = write \"1\""), files(t, "p/q", "1"))
}

// P81: a full tree takes no other files, but other bytes for those that it has.
func TestAllFull(t *testing.T) {
	x, want := tree.New(), tree.New()
	for i := range api.MaxFiles - 2 {
		for _, to := range []*tree.Tree{x, want} {
			if err := to.Put(fmt.Sprint("f", i), "f"); err != nil {
				t.Fatal(err)
			}
		}
	}
	l := sheetOf(t, "d = join a b c", "a = write \"a\"", "b = write \"b\"", "c = write \"c\"", "f7 = upper d", "e = upper none")
	for _, f := range [][2]string{{"a", "a"}, {"b", "b"}, {"f7", "ABC"}} {
		if err := want.Put(f[0], f[1]); err != nil {
			t.Fatal(err)
		}
	}
	lays(t, x, l, want)
	lays(t, want, l, want)
}

// P81: a round is an error, wherever it lies, and no tree comes with it.
func TestAllCycle(t *testing.T) {
	for _, l := range [][]api.Rule{
		sheetOf(t, "a = upper b", "b = upper a"),
		sheetOf(t, "ok = write", "a = join none b", "b = upper c", "c = upper a"),
	} {
		if all, err := All(files(t, "a", "a", "b", "b"), l); all != nil || err != api.ErrCycle {
			t.Errorf("All is %v, %v", all, err)
		}
	}
}

// P4: what All answers is new memory: neither tree sees what becomes of the other one.
func TestAllIsNew(t *testing.T) {
	x := files(t, "f", "f", "g", "g")
	l := sheetOf(t, "a = upper f")
	one, err := All(x, l)
	if err != nil {
		t.Fatal(err)
	}
	two, err := All(x, nil)
	if err != nil {
		t.Fatal(err)
	}
	for _, err := range []error{one.Put("f", "one"), one.Remove("g"), two.Put("two", ""), x.Put("f", "new"), x.Put("h", "h")} {
		if err != nil {
			t.Fatal(err)
		}
	}
	l[0].Out, l[0].Inputs[0] = "b", "g"
	for i, c := range []struct{ is, want *tree.Tree }{
		{one, files(t, "f", "one", "a", "F")},
		{two, files(t, "f", "f", "g", "g", "two", "")},
		{x, files(t, "f", "new", "g", "g", "h", "h")},
	} {
		if c.is.Text() != c.want.Text() {
			t.Errorf("%d: %q, not %q", i, c.is.Text(), c.want.Text())
		}
	}
}

// maker of a path; -1: none.
func maker(l []api.Rule, p string) int {
	return slices.IndexFunc(l, func(r api.Rule) bool { return r.Out == p })
}

// plainly: what an out has, told step by step, without a memory; a way that is as long as the sheet has a round.
func plainly(x *tree.Tree, l []api.Rule, out string) (string, error) {
	var round func(i, way int) bool
	round = func(i, way int) bool {
		if way > len(l) {
			return true
		}
		return slices.ContainsFunc(l[i].Inputs, func(p string) bool { at := maker(l, p); return at >= 0 && round(at, way+1) })
	}
	var tell func(i int) (string, error)
	tell = func(i int) (string, error) {
		var inputs []string
		for _, p := range l[i].Inputs {
			s, is := x.Get(p)
			var err error
			if at := maker(l, p); at >= 0 {
				s, err = tell(at)
			} else if !is {
				err = api.ErrNone
			}
			if err != nil {
				return "", err
			}
			inputs = append(inputs, s)
		}
		return act.Run(l[i].Kind, l[i].Word, inputs)
	}
	i := maker(l, out)
	switch {
	case i < 0:
		return "", api.ErrNone
	case round(i, 0):
		return "", api.ErrCycle
	}
	return tell(i)
}

// leaves: a tree of some paths, of which some are missing, and some long.
func leaves(t testing.TB, r *rand.Rand) *tree.Tree {
	t.Helper()
	x := tree.New()
	for _, p := range []string{"a", "b/a", "b/b", "c", "d", "e", "o1", "o3"} {
		bytes := []string{"", "x", "y\nx\n", "X", strings.Repeat("xy\n", 500)}[r.Intn(5)]
		if r.Intn(6) > 0 {
			if err := x.Put(p, bytes); err != nil {
				t.Fatal(err)
			}
		}
	}
	return x
}

// outOf a number: some lie below others, or below files.
func outOf(r *rand.Rand, i int) string {
	name := fmt.Sprint("o", i)
	if r.Intn(4) > 0 {
		return name
	}
	return []string{"a/", "b/", "o1/", "o2/"}[r.Intn(4)] + name
}

// anySheet of n rules; back: how many of 100 inputs are taken of all outs, so that there may be rounds.
func anySheet(r *rand.Rand, n, back int) []api.Rule {
	l := make([]api.Rule, n)
	for i := range l {
		l[i].Out = outOf(r, i)
	}
	paths := []string{"a", "b/a", "b/b", "c", "d", "e"}
	for at, i := range r.Perm(n) {
		c := []struct {
			kind, word string
			most       int
		}{{"write", "w", 0}, {"join", "+", 4}, {"join", "", 8}, {"upper", "", 1}, {"lines", "x", 1}, {"sort", "", 3}, {"sort", "once", 3}, {"count", "", 4}, {"swap", "x=xx", 1}, {"head", "1", 1}}[r.Intn(10)]
		l[i].Kind, l[i].Word = c.kind, c.word
		for range 1 + r.Intn(max(1, c.most)) {
			p := paths[r.Intn(len(paths))]
			switch {
			case r.Intn(100) < back:
				p = l[r.Intn(n)].Out
			case at > 0 && r.Intn(3) > 0:
				p = paths[len(paths)-1-r.Intn(min(at, 6))]
			}
			if p == l[i].Out {
				p = "a"
			}
			if c.most > 0 && !slices.Contains(l[i].Inputs, p) {
				l[i].Inputs = append(l[i].Inputs, p)
			}
		}
		paths = append(paths, l[i].Out)
	}
	return l
}

// P80: small sheets by chance, also such with rounds: each out has the bytes, or the error, that are told plainly.
func TestAnySheet(t *testing.T) {
	r := rand.New(rand.NewSource(80))
	seen := map[error]int{}
	for n := range 2500 {
		l := anySheet(r, 1+r.Intn(7), 20*(n%2))
		x := leaves(t, r)
		before := x.Text()
		for _, out := range append([]string{"a", "what"}, outsOf(l)...) {
			want, why := plainly(x, l, out)
			if s, err := Of(x, l, out); s != want || err != why {
				t.Fatalf("Of %q of %q is %.60q, %v, not %.60q, %v", out, l, s, err, want, why)
			}
			seen[why]++
		}
		if x.Text() != before {
			t.Fatalf("Of changed %q to %q", before, x.Text())
		}
	}
	if min(seen[nil], seen[api.ErrNone], seen[api.ErrCycle]) < 1000 || seen[api.ErrLong] < 100 {
		t.Errorf("%v are too few", seen)
	}
}

// outsOf a sheet.
func outsOf(l []api.Rule) []string {
	var outs []string
	for _, r := range l {
		outs = append(outs, r.Out)
	}
	return outs
}

// P81: All is the tree with what Of tells of each rule, laid in the order of graph.Order.
func TestAnyAll(t *testing.T) {
	r := rand.New(rand.NewSource(81))
	refused, rounds := 0, 0
	for n := range 700 {
		l := anySheet(r, 1+r.Intn(api.MaxRules), 5*(n%2))
		x := leaves(t, r)
		for i := range r.Intn(2) * r.Intn(api.MaxFiles-len(x.Paths())) {
			if err := x.Put(fmt.Sprint("f", i), ""); err != nil {
				t.Fatal(err)
			}
		}
		order, err := graph.Order(l)
		if err != nil {
			rounds++
			if all, again := All(x, l); all != nil || again != err {
				t.Fatalf("All is %v, %v, not %v", all, again, err)
			}
			continue
		}
		want, err := tree.Read(x.Text())
		if err != nil {
			t.Fatal(err)
		}
		for _, i := range order {
			if s, err := Of(x, l, l[i].Out); err == nil && want.Put(l[i].Out, s) != nil {
				refused++
			}
		}
		lays(t, x, l, want)
	}
	if min(refused, rounds) < 50 {
		t.Errorf("%d refused, %d rounds are too few", refused, rounds)
	}
}

// used: a cache that other builds have filled, of some room; or none.
func used(t testing.TB, r *rand.Rand) *cache.Cache {
	t.Helper()
	if r.Intn(4) == 0 {
		return nil
	}
	c, err := cache.New(1 + r.Intn(30))
	if err != nil {
		t.Fatal(err)
	}
	for range r.Intn(3) {
		l := anySheet(r, 1+r.Intn(12), 0)
		b, err := build.New(leaves(t, r), l, outsOf(l), c)
		if err != nil {
			t.Fatal(err)
		}
		b.All()
	}
	return c
}

// holdBuild that is over against what is wanted of each rule that it needs.
func holdBuild(t *testing.T, b *build.Build, x *tree.Tree, l []api.Rule, seen map[string]int) {
	t.Helper()
	for i, r := range l {
		state := b.State(i)
		seen[state]++
		if state == "" {
			continue
		}
		want, err := Of(x, l, r.Out)
		s, is := b.Result(i)
		if s != want || is != (err == nil) {
			t.Fatalf("rule %d of %q: %s with %.60q, but wanted is %.60q, %v", i, l, state, s, want, err)
		}
		// one that is left has the error of another rule; one that failed has its own
		if state == "failed" && b.Why(i) != err {
			t.Fatalf("rule %d of %q failed: %v, not %v", i, l, b.Why(i), err)
		}
	}
}

// P82: a build makes what is wanted: whatever the outs, the order, and whatever the cache has of other builds.
func TestBuildMakesWhatIsWanted(t *testing.T) {
	r := rand.New(rand.NewSource(82))
	seen := map[string]int{}
	for range 300 {
		l := anySheet(r, 1+r.Intn(api.MaxRules), 0)
		x, c := leaves(t, r), used(t, r)
		outs := outsOf(l)
		r.Shuffle(len(outs), func(i, j int) { outs[i], outs[j] = outs[j], outs[i] })
		for _, some := range [][]string{outs, outs[:1], outs[:(len(outs)+1)/2]} {
			b, err := build.New(x, l, some, c)
			if err != nil {
				t.Fatal(err)
			}
			for ready := b.Ready(); len(ready) > 0; ready = b.Ready() {
				if _, err := b.Run(ready[r.Intn(len(ready))]); err != nil {
					t.Fatal(err)
				}
			}
			seen["hit"] += b.Count().Hit
			holdBuild(t, b, x, l, seen)
		}
	}
	if min(seen["done"], seen["failed"], seen["left"], seen["hit"], seen[""]) < 400 {
		t.Errorf("%v are too few", seen)
	}
}

// P82: what a build may not begin is not wanted either: the same rounds, and the same outs without a rule.
func TestBuildRefusesWhatIsNotWanted(t *testing.T) {
	r := rand.New(rand.NewSource(828))
	seen := map[error]int{}
	for range 800 {
		l := anySheet(r, 1+r.Intn(12), 15)
		x := leaves(t, r)
		for _, out := range append([]string{"a", "what"}, outsOf(l)...) {
			b, refused := build.New(x, l, []string{out}, nil)
			_, err := Of(x, l, out)
			switch {
			case refused == nil:
				if b.All(); (b.State(maker(l, out)) == "done") != (err == nil) || err == api.ErrCycle {
					t.Fatalf("Of %q of %q has %v", out, l, err)
				}
			case isFault(refused, 0, api.ErrNone) && err == api.ErrNone, refused == err:
			default:
				t.Fatalf("Of %q of %q has %v, a build %v", out, l, err, refused)
			}
			seen[err]++
		}
	}
	if min(seen[nil], seen[api.ErrNone], seen[api.ErrCycle]) < 1000 {
		t.Errorf("%v are too few", seen)
	}
}
