package pick

import (
	"math"
	"math/rand"
	"slices"
	"strings"
	"testing"

	"kilnfield/api"
	"kilnfield/build"
	"kilnfield/cache"
	"kilnfield/tree"
)

// leaves: a tree of a to d, of which some are missing, and some long.
func leaves(t testing.TB, r *rand.Rand) *tree.Tree {
	t.Helper()
	x := tree.New()
	for _, p := range []string{"a", "b", "c", "d"} {
		bytes := []string{"", "x", "y\nx\n", "X", strings.Repeat("xy\n", 500)}[r.Intn(5)]
		if r.Intn(8) > 0 {
			if err := x.Put(p, bytes); err != nil {
				t.Fatal(err)
			}
		}
	}
	return x
}

// anySheet of n rules, which need each other in no round; no order of numbers is the order of needs.
func anySheet(r *rand.Rand, n int) []api.Rule {
	l := make([]api.Rule, n)
	paths := []string{"a", "b", "c", "d"}
	for _, i := range r.Perm(n) {
		c := []struct {
			kind, word string
			most       int
		}{{"write", "w", 0}, {"join", "+", 3}, {"upper", "", 1}, {"lines", "x", 1}, {"sort", "once", 3}, {"count", "", 4}, {"head", "1", 1}}[r.Intn(7)]
		l[i] = api.Rule{Out: name(i), Kind: c.kind, Word: c.word}
		for range c.most {
			if p := paths[r.Intn(len(paths))]; !slices.Contains(l[i].Inputs, p) {
				l[i].Inputs = append(l[i].Inputs, p)
			}
		}
		paths = append(paths, l[i].Out)
	}
	return l
}

// anyPicks: numbers by chance, some of them great.
func anyPicks(r *rand.Rand) []int {
	picks := make([]int, r.Intn(50))
	for i := range picks {
		switch r.Intn(6) {
		case 0:
			picks[i] = []int{math.MinInt, math.MinInt + 1, math.MaxInt, 0}[r.Intn(4)]
		case 1:
			picks[i] = int(r.Uint64())
		default:
			picks[i] = r.Intn(41) - 20
		}
	}
	return picks
}

// place of a pick among some: told without a sign that could go wrong.
func place(p, many int) int {
	if p == math.MinInt {
		return 0
	}
	rest := p % many
	if rest < 0 {
		return -rest
	}
	return rest
}

// byHand: a build is run by picks; those that ran.
func byHand(t *testing.T, b *build.Build, picks []int) []int {
	t.Helper()
	var ran []int
	run := func(p int) {
		if ready := b.Ready(); len(ready) > 0 {
			i := ready[place(p, len(ready))]
			if _, err := b.Run(i); err != nil {
				t.Fatal(err)
			}
			ran = append(ran, i)
		}
	}
	for _, p := range picks {
		run(p)
	}
	for !b.Over() {
		run(0)
	}
	return ran
}

// sameEnds: of all rules the state, the result and the cause.
func sameEnds(t *testing.T, a, b *build.Build, l []api.Rule, seen map[string]int) {
	t.Helper()
	for i := range l {
		x, is := a.Result(i)
		y, also := b.Result(i)
		if x != y || is != also || a.State(i) != b.State(i) || a.Why(i) != b.Why(i) {
			t.Fatalf("rule %d of %q: %.60q, %s, %v; not %.60q, %s, %v", i, l, x, a.State(i), a.Why(i), y, b.State(i), b.Why(i))
		}
		seen[a.State(i)]++
	}
}

// P100, P102: by picks of chance, with and without caches, builds run as they do by hand, and have the same results as one that runs by itself.
func TestAnyPicks(t *testing.T) {
	r := rand.New(rand.NewSource(102))
	seen := map[string]int{}
	for range 1500 {
		l := anySheet(r, 1+r.Intn(api.MaxRules))
		x := leaves(t, r)
		plain := begin(t, x, l, nil)
		plain.All()
		many := 1 + r.Intn(20)
		caches, twins := []*cache.Cache{nil, room(t, many)}, []*cache.Cache{nil, room(t, many)}
		for range 4 {
			at := r.Intn(2)
			picks := anyPicks(r)
			b, twin := begin(t, x, l, caches[at]), begin(t, x, l, twins[at])
			ran, err := Run(b, picks)
			if want := byHand(t, twin, picks); !slices.Equal(ran, want) || err != nil {
				t.Fatalf("Run by %v of %q is %v, %v, not %v", picks, l, ran, err, want)
			}
			if b.Count() != twin.Count() || !b.Over() {
				t.Fatalf("%+v, not %+v", b.Count(), twin.Count())
			}
			sameEnds(t, b, plain, l, seen)
			seen["hit"] += b.Count().Hit
			seen["least"] += min(1, max(0, slices.Index(picks, math.MinInt)+1))
			seen["turned"] += min(1, slices.Compare(ran, slices.Sorted(slices.Values(ran))))
		}
	}
	for _, what := range []string{"done", "failed", "left", "hit", "least", "turned"} {
		if seen[what] < 300 {
			t.Errorf("%d of %q are too few", seen[what], what)
		}
	}
}

// P102: each row in which a few rules can run is had by some picks, and has the same results.
func TestEveryPick(t *testing.T) {
	r := rand.New(rand.NewSource(100))
	seen := map[string]int{}
	rows := 0
	for range 150 {
		l := anySheet(r, 1+r.Intn(5))
		x := leaves(t, r)
		plain := begin(t, x, l, nil)
		plain.All()
		var goOn func(picks []int)
		goOn = func(picks []int) {
			b := begin(t, x, l, nil)
			for _, p := range picks {
				if _, err := b.Run(b.Ready()[p]); err != nil {
					t.Fatal(err)
				}
			}
			if !b.Over() {
				for p := range b.Ready() {
					goOn(append(slices.Clone(picks), p))
				}
				return
			}
			rows++
			picked := begin(t, x, l, nil)
			if _, err := Run(picked, picks); err != nil {
				t.Fatal(err)
			}
			sameEnds(t, picked, plain, l, seen)
		}
		goOn(nil)
	}
	if rows < 1000 {
		t.Errorf("only %d rows", rows)
	}
}
