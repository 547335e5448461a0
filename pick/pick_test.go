package pick

import (
	"fmt"
	"math"
	"slices"
	"strconv"
	"strings"
	"testing"

	"kilnfield/api"
	"kilnfield/build"
	"kilnfield/cache"
	"kilnfield/tree"
)

// name of the out of a rule.
func name(i int) string { return "o" + strconv.Itoa(i) }

// sheetOf: of each rule its inputs, with blanks between; the outs are o0, o1 ..
func sheetOf(inputs ...string) []api.Rule {
	var l []api.Rule
	for i, in := range inputs {
		r := api.Rule{Out: name(i), Kind: "join", Word: "+", Inputs: strings.Fields(in)}
		if len(r.Inputs) == 0 {
			r.Kind = "write"
		}
		l = append(l, r)
	}
	return l
}

// begin a build that must be well, of all rules.
func begin(t testing.TB, x *tree.Tree, l []api.Rule, c *cache.Cache) *build.Build {
	t.Helper()
	var outs []string
	for _, r := range l {
		outs = append(outs, r.Out)
	}
	b, err := build.New(x, l, outs, c)
	if b == nil || err != nil {
		t.Fatalf("New of %q is %v, %v", l, b, err)
	}
	return b
}

// room: a new cache.
func room(t testing.TB, many int) *cache.Cache {
	t.Helper()
	c, err := cache.New(many)
	if err != nil {
		t.Fatal(err)
	}
	return c
}

// picked: by these picks just those run, in that order; the build is over then.
func picked(t *testing.T, b *build.Build, picks []int, want string) {
	t.Helper()
	if ran, err := Run(b, picks); fmt.Sprint(ran) != want || err != nil || !b.Over() || len(b.Ready()) > 0 {
		t.Errorf("Run by %.60q is %v, %v, not %s; over: %v", fmt.Sprint(picks), ran, err, want, b.Over())
	}
}

// P100: of those that are ready the one that is picked; then the first one, again and again.
func TestRun(t *testing.T) {
	flat := sheetOf("", "", "", "", "")
	steps := sheetOf("o2", "", "o1", "", "o3 o0")
	for _, c := range []struct {
		l     []api.Rule
		picks []int
		want  string
	}{
		{nil, nil, "[]"},
		{nil, []int{3, 1}, "[]"},
		{flat, nil, "[0 1 2 3 4]"},
		{flat, []int{}, "[0 1 2 3 4]"},
		{flat, []int{0}, "[0 1 2 3 4]"},
		{flat, []int{2}, "[2 0 1 3 4]"},
		{flat, []int{4}, "[4 0 1 2 3]"},
		{flat, []int{5}, "[0 1 2 3 4]"},
		{flat, []int{6}, "[1 0 2 3 4]"},
		{flat, []int{4, 3, 2, 1, 0}, "[4 3 2 1 0]"},
		{flat, []int{4, 4, 4, 4, 4}, "[4 0 2 1 3]"},
		{flat, []int{1, 0, 2}, "[1 0 4 2 3]"},
		// More picks than rules: the rest finds none ready.
		{flat, []int{1, 1, 1, 1, 1, 1, 1}, "[1 2 3 4 0]"},
		{steps, nil, "[1 2 0 3 4]"},
		{steps, []int{1}, "[3 1 2 0 4]"},
		{steps, []int{1, 1}, "[3 1 2 0 4]"},
		{steps, []int{0, 1}, "[1 3 2 0 4]"},
		{steps, []int{0, 0, 1}, "[1 2 3 0 4]"},
		{sheetOf("o1", "o2", "o3", ""), []int{3, 2, 1, 7}, "[3 2 1 0]"},
	} {
		picked(t, begin(t, tree.New(), c.l, nil), c.picks, c.want)
	}
}

// P100: a pick below 0 is as great as the one above it; the least int is 0.
func TestSizes(t *testing.T) {
	flat := sheetOf("", "", "", "", "")
	for _, c := range []struct {
		picks []int
		want  string
	}{
		{[]int{-1}, "[1 0 2 3 4]"},
		{[]int{-4, -3}, "[4 3 0 1 2]"},
		{[]int{-5}, "[0 1 2 3 4]"},
		{[]int{-6}, "[1 0 2 3 4]"},
		{[]int{-8, 6}, "[3 2 0 1 4]"},
		{[]int{math.MinInt}, "[0 1 2 3 4]"},
		{[]int{2, math.MinInt, math.MinInt}, "[2 0 1 3 4]"},
		{[]int{math.MaxInt}, "[" + turned(math.MaxInt%5) + "]"},
		{[]int{-math.MaxInt}, "[" + turned(math.MaxInt%5) + "]"},
	} {
		picked(t, begin(t, tree.New(), flat, nil), c.picks, c.want)
	}
}

// turned: five numbers, one of them ahead of the others.
func turned(first int) string {
	l := []string{strconv.Itoa(first)}
	for i := range 5 {
		if i != first {
			l = append(l, strconv.Itoa(i))
		}
	}
	return strings.Join(l, " ")
}

// P100: MaxSteps picks, and more, are no error: those that find none ready do nothing.
func TestManyPicks(t *testing.T) {
	for _, n := range []int{api.MaxSteps - 1, api.MaxSteps, api.MaxSteps + 1, 10 * api.MaxSteps} {
		picked(t, begin(t, tree.New(), sheetOf("", "", "", ""), nil), slices.Repeat([]int{-1}, n), "[1 2 3 0]")
		picked(t, begin(t, tree.New(), nil, nil), slices.Repeat([]int{7}, n), "[]")
	}
}

// P100: a rule that fails ran; those that are left did not, and make no place among those that are ready.
func TestFailed(t *testing.T) {
	l := sheetOf("none", "o0", "o1", "", "o3 o1", "o3")
	for _, c := range []struct {
		picks []int
		want  string
	}{{nil, "[0 3 5]"}, {[]int{1, 1}, "[3 5 0]"}, {[]int{1, 0, 3}, "[3 0 5]"}, {[]int{2, 2, 2}, "[0 3 5]"}} {
		b := begin(t, tree.New(), l, nil)
		picked(t, b, c.picks, c.want)
		if n := b.Count(); n != (build.Count{Ran: 2, Failed: 1, Left: 3}) || b.Why(0) != api.ErrNone {
			t.Errorf("%+v, %v", n, b.Why(0))
		}
	}
}

// P100: only what is needed runs; what ran ahead of the call is not told again; a build that is over runs none.
func TestBegun(t *testing.T) {
	l := sheetOf("", "", "o0 o1", "o2", "")
	b, err := build.New(tree.New(), l, []string{"o2"}, nil)
	if err != nil {
		t.Fatal(err)
	}
	picked(t, b, []int{1}, "[1 0 2]")
	picked(t, b, []int{1, 2}, "[]")
	b = begin(t, tree.New(), l, nil)
	for _, i := range []int{1, 4} {
		if _, err := b.Run(i); err != nil {
			t.Fatal(err)
		}
	}
	picked(t, b, nil, "[0 2 3]")
	b.All()
	picked(t, b, []int{5}, "[]")
}

// P100: what the cache has runs too, and is had.
func TestHits(t *testing.T) {
	c := room(t, 9)
	l := sheetOf("", "o0", "", "o1 o2")
	l[2].Word = "w"
	begin(t, tree.New(), l[:2], c).All()
	b := begin(t, tree.New(), l, c)
	picked(t, b, []int{1, 0}, "[2 0 1 3]")
	if n := b.Count(); n != (build.Count{Ran: 2, Hit: 2}) {
		t.Errorf("%+v", n)
	}
}

// P100, P1: no build: a bare error, whatever the picks. A build that holds nothing runs none.
func TestNoBuild(t *testing.T) {
	for _, picks := range [][]int{nil, {}, {0}, {-1, math.MinInt}} {
		if ran, err := Run(nil, picks); len(ran) > 0 || err != api.ErrShape {
			t.Errorf("Run of nil is %v, %v", ran, err)
		}
		if ran, err := Run(new(build.Build), picks); len(ran) > 0 || err != nil {
			t.Errorf("Run of an empty build is %v, %v", ran, err)
		}
	}
}

// P3, P4: picks are only read, and nothing behind them is; what is answered is new memory.
func TestMemory(t *testing.T) {
	all := []int{2, 1, 1, 1}
	b := begin(t, tree.New(), sheetOf("", "", "", ""), nil)
	ran, err := Run(b, all[:2])
	if fmt.Sprint(ran) != "[2 1 0 3]" || err != nil || !slices.Equal(all, []int{2, 1, 1, 1}) {
		t.Errorf("%v, %v; picks %v", ran, err, all)
	}
	clear(ran)
	if n := b.Count(); n.Ran != 4 || !slices.Equal(all, []int{2, 1, 1, 1}) {
		t.Errorf("%+v; picks %v", n, all)
	}
}
