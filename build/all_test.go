package build

import (
	"fmt"
	"math/rand"
	"slices"
	"strings"
	"testing"

	"kilnfield/act"
	"kilnfield/api"
	"kilnfield/cache"
	"kilnfield/tree"
)

// end of a rule in a build that is over.
type end struct {
	state, result string
	why           error
}

// wanted: how each rule that is needed for some outs ends, told without a build: from each out downwards.
func wanted(x *tree.Tree, l []api.Rule, outs []string) map[int]end {
	ends := map[int]end{}
	var look func(i int) end
	look = func(i int) end {
		if e, is := ends[i]; is {
			return e
		}
		var inputs []string
		e := end{state: "done"}
		for _, p := range l[i].Inputs {
			if at := maker(l, p); at >= 0 {
				from := look(at)
				if from.state != "done" {
					e.state = "left"
				}
				inputs = append(inputs, from.result)
			} else if s, is := x.Get(p); is {
				inputs = append(inputs, s)
			} else {
				e.why = api.ErrNone
			}
		}
		if e.state == "done" && e.why == nil {
			e.result, e.why = act.Run(l[i].Kind, l[i].Word, inputs)
		}
		if e.state == "left" {
			e.why = nil
		}
		if e.why != nil {
			e.state = "failed"
		}
		ends[i] = e
		return e
	}
	for _, out := range outs {
		look(maker(l, out))
	}
	return ends
}

// maker of a path; -1: none.
func maker(l []api.Rule, p string) int {
	return slices.IndexFunc(l, func(r api.Rule) bool { return r.Out == p })
}

// holdEnds of a build that is over against those that are wanted.
func holdEnds(t *testing.T, b *Build, l []api.Rule, want map[int]end) {
	t.Helper()
	many := map[string]int{}
	for i := range l {
		result, is := b.Result(i)
		e := end{b.State(i), result, b.Why(i)}
		if e != want[i] || is != (e.state == "done") {
			t.Fatalf("rule %d of %q: %v, %v, not %v", i, l, e, is, want[i])
		}
		many[e.state]++
	}
	n := b.Count()
	if n.Ran+n.Hit != many["done"] || n.Failed != many["failed"] || n.Left != many["left"] || !b.Over() || len(b.Ready()) > 0 {
		t.Fatalf("%v, over %v, of %v", n, b.Over(), many)
	}
}

// readyOf: what must be ready, by the states alone.
func readyOf(b *Build, l []api.Rule) []int {
	var ready []int
	for i, r := range l {
		waits := slices.ContainsFunc(r.Inputs, func(p string) bool { at := maker(l, p); return at >= 0 && b.State(at) != "done" })
		if b.State(i) == "waits" && !waits {
			ready = append(ready, i)
		}
	}
	return ready
}

// leaves: a tree of a to e, of which some are missing, and some long.
func leaves(t testing.TB, r *rand.Rand) *tree.Tree {
	t.Helper()
	x := tree.New()
	for _, p := range []string{"a", "b", "c", "d", "e"} {
		bytes := []string{"", "x", "y\nx\n", "X", strings.Repeat("xy\n", 500)}[r.Intn(5)]
		if r.Intn(6) > 0 {
			if err := x.Put(p, bytes); err != nil {
				t.Fatal(err)
			}
		}
	}
	return x
}

// anySheet of n rules, which need each other in no round; outs are named so that no order of numbers is the order of needs.
func anySheet(r *rand.Rand, n int) []api.Rule {
	l := make([]api.Rule, n)
	paths := []string{"a", "b", "c", "d", "e"}
	for at, i := range r.Perm(n) {
		made := fmt.Sprint("o", i)
		c := []struct {
			kind, word string
			most       int
		}{{"write", "w", 0}, {"join", "+", 4}, {"join", "", 8}, {"upper", "", 1}, {"lines", "x", 1}, {"sort", "", 3}, {"sort", "once", 3}, {"count", "", 4}, {"swap", "x=xx", 1}, {"head", "1", 1}}[r.Intn(10)]
		l[i] = api.Rule{Out: made, Kind: c.kind, Word: c.word}
		for range 1 + r.Intn(max(1, c.most)) {
			p := paths[r.Intn(len(paths))]
			if at > 0 && r.Intn(3) > 0 {
				p = paths[len(paths)-1-r.Intn(min(at, 6))]
			}
			if c.most > 0 && !slices.Contains(l[i].Inputs, p) {
				l[i].Inputs = append(l[i].Inputs, p)
			}
		}
		paths = append(paths, made)
	}
	return l
}

// someOuts of a sheet.
func someOuts(r *rand.Rand, l []api.Rule) []string {
	var outs []string
	for range 1 + r.Intn(3) {
		outs = append(outs, l[r.Intn(len(l))].Out)
	}
	return outs
}

// used: a cache that other builds have filled, of some room; or none.
func used(t testing.TB, r *rand.Rand) *cache.Cache {
	t.Helper()
	if r.Intn(4) == 0 {
		return nil
	}
	c := room(t, 1+r.Intn(30))
	for range r.Intn(3) {
		l := anySheet(r, 1+r.Intn(12))
		begin(t, leaves(t, r), l, c, someOuts(r, l)...).All()
	}
	return c
}

// P73: all orders in which a few rules can run, with and without caches: always the same ends.
func TestEveryOrder(t *testing.T) {
	r := rand.New(rand.NewSource(73))
	many := 0
	for range 400 {
		l := anySheet(r, 1+r.Intn(5))
		x, outs := leaves(t, r), someOuts(r, l)
		want := wanted(x, l, outs)
		shared := used(t, r)
		var goOn func(order []int)
		goOn = func(order []int) {
			for _, c := range []*cache.Cache{nil, room(t, 1+r.Intn(4)), shared} {
				b := begin(t, x, l, c, outs...)
				for _, i := range order {
					if _, err := b.Run(i); err != nil {
						t.Fatalf("Run(%d) in %v of %q: %v", i, order, l, err)
					}
				}
				if b.Over() {
					many++
					holdEnds(t, b, l, want)
				} else if c == shared {
					for _, i := range b.Ready() {
						goOn(append(slices.Clone(order), i))
					}
				}
			}
		}
		goOn(nil)
	}
	if many < 3000 {
		t.Errorf("only %d builds", many)
	}
}

// P70 to P73: great sheets, in an order by chance, with caches that other builds have filled: at each step what is ready is just that, and the ends are the same.
func TestAnyOrder(t *testing.T) {
	r := rand.New(rand.NewSource(7))
	seen := map[string]int{}
	hits := 0
	for range 1000 {
		l := anySheet(r, 1+r.Intn(api.MaxRules))
		x, outs := leaves(t, r), someOuts(r, l)
		want := wanted(x, l, outs)
		for _, e := range want {
			seen[e.state]++
			if e.why == api.ErrLong {
				seen["long"]++
			}
		}
		c := used(t, r)
		for range 3 {
			b := begin(t, x, l, c, outs...)
			for !b.Over() {
				ready := b.Ready()
				if !slices.Equal(ready, readyOf(b, l)) {
					t.Fatalf("ready %v, not %v, of %q", ready, readyOf(b, l), l)
				}
				if len(ready) == 0 {
					t.Fatalf("none is ready: %s", states(b, len(l)))
				}
				if _, err := b.Run(ready[r.Intn(len(ready))]); err != nil {
					t.Fatal(err)
				}
			}
			holdEnds(t, b, l, want)
			hits += b.Count().Hit
		}
		b := begin(t, x, l, c, outs...)
		if n := b.All(); n != b.Count() {
			t.Fatalf("%v, %v", n, b.Count())
		}
		holdEnds(t, b, l, want)
	}
	if min(seen["done"], seen["failed"], seen["left"], hits) < 300 || seen["long"] < 50 {
		t.Errorf("%v, %d hits are too few", seen, hits)
	}
}

// P71: a run is had just if its key was in the cache, and the cache is then as if asked by hand.
func TestHitsByHand(t *testing.T) {
	r := rand.New(rand.NewSource(71))
	for range 500 {
		l := anySheet(r, 1+r.Intn(15))
		x, outs := leaves(t, r), someOuts(r, l)
		many := 1 + r.Intn(6)
		c, hand := room(t, many), room(t, many)
		for range 3 {
			b := begin(t, x, l, c, outs...)
			for ready := b.Ready(); len(ready) > 0; ready = b.Ready() {
				i := ready[r.Intn(len(ready))]
				had, err := b.Run(i)
				if want := runByHand(b, x, l, i, hand); had != want || err != nil {
					t.Fatalf("Run(%d) is %v, %v, not %v", i, had, err, want)
				}
				if !slices.Equal(c.Keys(), hand.Keys()) {
					t.Fatalf("%q, not %q", c.Keys(), hand.Keys())
				}
			}
		}
	}
}

// runByHand: is the key of a rule in a cache? If not, it goes there, if the rule is done.
func runByHand(b *Build, x *tree.Tree, l []api.Rule, i int, hand *cache.Cache) bool {
	var inputs []string
	for _, p := range l[i].Inputs {
		s, is := x.Get(p)
		if at := maker(l, p); at >= 0 {
			s, is = b.Result(at)
		}
		if !is {
			return false
		}
		inputs = append(inputs, s)
	}
	key := cache.Key(l[i].Kind, l[i].Word, inputs)
	if _, had := hand.Get(key); had {
		return true
	}
	if s, err := act.Run(l[i].Kind, l[i].Word, inputs); err == nil {
		hand.Put(key, s)
	}
	return false
}
