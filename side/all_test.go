package side

import (
	"errors"
	"fmt"
	"math/rand"
	"slices"
	"strings"
	"sync"
	"testing"

	"kilnfield/api"
	"kilnfield/play"
	"kilnfield/tree"
	"kilnfield/want"
)

// anySheet by chance: outs o0, o1 .. of files a, b and c, and of each other; some need a round, or what is none.
func anySheet(r *rand.Rand) []api.Rule {
	l := make([]api.Rule, 1+r.Intn(12))
	for i := range l {
		l[i] = api.Rule{Out: fmt.Sprint("o", i), Kind: []string{"join", "sort", "count"}[r.Intn(3)]}
		paths := []string{"a", "b", "c", "none"}
		for j := range l {
			if j < i || r.Intn(10) == 0 {
				paths = append(paths, fmt.Sprint("o", j))
			}
		}
		for range 1 + r.Intn(3) {
			p := paths[r.Intn(len(paths))]
			if p == "none" && r.Intn(4) > 0 {
				p = "a"
			}
			if p != l[i].Out && !slices.Contains(l[i].Inputs, p) {
				l[i].Inputs = append(l[i].Inputs, p)
			}
		}
		if len(l[i].Inputs) == 0 {
			l[i].Inputs = []string{"b"}
		}
	}
	if r.Intn(15) == 0 {
		l[r.Intn(len(l))].Kind = "what"
	}
	return l
}

// oneByOne: what want.Of tells of each out, up to the first error.
func oneByOne(x *tree.Tree, l []api.Rule, outs []string) ([]string, *api.Fault) {
	var all []string
	for i, out := range outs {
		bytes, err := want.Of(x, l, out)
		if f := (*api.Fault)(nil); errors.As(err, &f) {
			err = f.Err
		}
		if err != nil {
			return nil, &api.Fault{At: i, Err: err}
		}
		all = append(all, bytes)
	}
	return all, nil
}

// P120, P121: sheets and outs by chance: by however many it is what want.Of tells, one by one.
func TestAnyWants(t *testing.T) {
	r := rand.New(rand.NewSource(120))
	seen := map[error]int{}
	for range 160 {
		l := anySheet(r)
		x := files(t, "a", "x\n", "b", "b\na", "c", strings.Repeat("y", r.Intn(api.MaxBytes)))
		outs := make([]string, r.Intn(1+[]int{3, 10, 100}[r.Intn(3)]))
		for i := range outs {
			outs[i] = fmt.Sprint("o", r.Intn(len(l)))
		}
		told, why := oneByOne(x, l, outs)
		if why == nil {
			seen[nil]++
			tells(t, x, l, outs, told...)
		} else {
			seen[why.Err]++
			faults(t, x, l, outs, why.At, why.Err)
		}
	}
	if min(seen[nil], seen[api.ErrNone], seen[api.ErrCycle]) < 10 || min(seen[api.ErrLong], seen[api.ErrKind]) < 3 {
		t.Errorf("%v are too few", seen)
	}
}

// anyScripts by chance.
func anyScripts(r *rand.Rand, many int) [][]int {
	scripts := make([][]int, many)
	for i := range scripts {
		scripts[i] = make([]int, r.Intn(40))
		for j := range scripts[i] {
			scripts[i][j] = r.Intn(8*3*32) - 10
		}
	}
	return scripts
}

// P120, P121: scripts by chance: by however many each has the sum that a play of its own has.
func TestAnyPlays(t *testing.T) {
	r := rand.New(rand.NewSource(121))
	differ := map[string]int{}
	for range 30 {
		scripts := anyScripts(r, r.Intn(31))
		var sums []string
		for _, script := range scripts {
			y := play.New()
			play.Run(y, script)
			sums = append(sums, play.Sum(y))
			differ[play.Sum(y)]++
		}
		plays(t, scripts, sums...)
	}
	if len(differ) < 100 {
		t.Errorf("%d sums are too few", len(differ))
	}
}

// P2, P121: calls beside each other do not see each other: each answers as if it were alone.
func TestCallsBesideOthers(t *testing.T) {
	r := rand.New(rand.NewSource(122))
	x, l := files(t, "a", "x\n", "b", "b\na", "c", "y"), sheetOf(t, "o0 = join a b", "o1 = sort o0 c", "o2 = count o0 o1")
	scripts := anyScripts(r, 20)
	sums, err := Plays(scripts, 1)
	if err != nil {
		t.Fatal(err)
	}
	var calls sync.WaitGroup
	for range 4 {
		calls.Go(func() {
			tells(t, x, l, []string{"o2", "o0", "o1"}, "7 13\n", "x\nb\na", "a\nb\nx\ny\n")
			faults(t, x, l, []string{"o2", "a"}, 1, api.ErrNone)
			plays(t, scripts, sums...)
		})
	}
	calls.Wait()
}

// P1, P121: the most and longest scripts that there may be end soon, and are the same by one and by all.
func TestMostPlays(t *testing.T) {
	r := rand.New(rand.NewSource(123))
	scripts := make([][]int, most)
	for i := range scripts {
		scripts[i] = make([]int, api.MaxSteps/10)
		for j := range scripts[i] {
			scripts[i][j] = r.Intn(8 * 3 * 32)
		}
	}
	scripts[0] = slices.Repeat(scripts[0], 20)
	one, err := Plays(scripts, 1)
	if all, again := Plays(scripts, api.Workers); err != nil || again != nil || len(all) != most || !slices.Equal(one, all) {
		t.Errorf("%d sums and %d, %v, %v", len(one), len(all), err, again)
	}
}
