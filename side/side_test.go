package side

import (
	"fmt"
	"math"
	"reflect"
	"slices"
	"strings"
	"testing"

	"kilnfield/api"
	"kilnfield/play"
	"kilnfield/rule"
	"kilnfield/tree"
)

// sheetOf lines, each a rule.
func sheetOf(t testing.TB, lines ...string) []api.Rule {
	t.Helper()
	l, err := rule.Read(strings.Join(lines, "\n") + "\n")
	if err != nil {
		t.Fatalf("%q: %v", lines, err)
	}
	return l
}

// files: a tree of paths, each with its bytes behind it.
func files(t testing.TB, pairs ...string) *tree.Tree {
	t.Helper()
	x := tree.New()
	for i := 0; i < len(pairs); i += 2 {
		if err := x.Put(pairs[i], pairs[i+1]); err != nil {
			t.Fatal(err)
		}
	}
	return x
}

// tells: outs have these bytes, by however many.
func tells(t *testing.T, x *tree.Tree, l []api.Rule, outs []string, want ...string) {
	t.Helper()
	for workers := 1; workers <= api.Workers; workers++ {
		if got, err := Wants(x, l, outs, workers); !slices.Equal(got, want) || err != nil {
			t.Errorf("Wants of %.60q by %d is %.60q, %v, not %.60q", outs, workers, got, err, want)
			return
		}
	}
}

// faults: outs have just this error, at just this place, by however many; and no bytes.
func faults(t *testing.T, x *tree.Tree, l []api.Rule, outs []string, at int, want error) {
	t.Helper()
	for workers := 1; workers <= api.Workers; workers++ {
		got, err := Wants(x, l, outs, workers)
		if f, is := err.(*api.Fault); len(got) > 0 || !is || *f != (api.Fault{At: at, Err: want}) {
			t.Errorf("Wants of %.60q by %d is %.60q, %#v, not %v at %d", outs, workers, got, err, want, at)
			return
		}
	}
}

// plays: scripts have these sums, by however many.
func plays(t *testing.T, scripts [][]int, want ...string) {
	t.Helper()
	for workers := 1; workers <= api.Workers; workers++ {
		if got, err := Plays(scripts, workers); !slices.Equal(got, want) || err != nil {
			t.Errorf("Plays of %.60q by %d is %.60q, %v, not %.60q", fmt.Sprint(scripts), workers, got, err, want)
			return
		}
	}
}

// P120: each out has the bytes that it is wanted to have, in the order of the outs; one may stand there again.
func TestWants(t *testing.T) {
	x := files(t, "f", "b\na", "c", "file c")
	l := sheetOf(t, "a = join \"+\" up f", "up = upper f", "srt = sort f", "c = write \"rule c\"", "d = upper c", "e = write", "bad = upper none")
	tells(t, x, l, []string{"a"}, "B\nA+b\na")
	tells(t, x, l, []string{"srt", "up", "a", "e", "c", "d"}, "a\nb\n", "B\nA", "B\nA+b\na", "", "rule c", "RULE C")
	tells(t, x, l, []string{"d", "up", "d", "d", "up"}, "RULE C", "B\nA", "RULE C", "RULE C", "B\nA")
	tells(t, &tree.Tree{}, l, []string{"d", "e"}, "RULE C", "")
}

// P120: no outs have no bytes and no error: whatever the rules are, and also if there is no tree.
func TestWantsOfNone(t *testing.T) {
	for _, x := range []*tree.Tree{nil, tree.New(), files(t, "f", "f")} {
		for _, l := range [][]api.Rule{nil, {}, {{}, {}}, make([]api.Rule, api.MaxRules+1), sheetOf(t, "a = upper b", "b = upper a")} {
			tells(t, x, l, nil)
			tells(t, x, l, []string{})
		}
	}
}

// P120: the first out that has an error is told with its place among the outs, whatever those behind it have.
func TestFirstFault(t *testing.T) {
	half := strings.Repeat("x", api.MaxBytes/2+1)
	x := files(t, "f", half, "g", half)
	l := sheetOf(t, "ok = write \"x\"", "gone = upper none", "long = join f g", "one = upper two", "two = upper one", "deep = join ok long gone")
	for _, c := range []struct {
		outs string
		at   int
		want error
	}{
		{"gone", 0, api.ErrNone},
		{"long", 0, api.ErrLong},
		{"one", 0, api.ErrCycle},
		{"f", 0, api.ErrNone},
		{"ok gone", 1, api.ErrNone},
		{"ok ok deep gone", 2, api.ErrLong},
		{"long gone one", 0, api.ErrLong},
		{"gone long one", 0, api.ErrNone},
		{"one gone long", 0, api.ErrCycle},
		{"ok one gone long what ok", 1, api.ErrCycle},
		{"ok what one", 1, api.ErrNone},
		{"ok ok ok ok ok ok ok ok two", 8, api.ErrCycle},
	} {
		faults(t, x, l, strings.Fields(c.outs), c.at, c.want)
	}
	faults(t, x, l, []string{"ok", ""}, 1, api.ErrNone)
	faults(t, x, l, []string{"ok", "\xff", "one"}, 1, api.ErrNone)
	faults(t, x, nil, []string{"ok"}, 0, api.ErrNone)
}

// P120: no tree, and sheets that are not well: the first out has the error; the place is the out's, and that of the rule is not told.
func TestSheetFaults(t *testing.T) {
	x := files(t, "f", "f")
	ok := sheetOf(t, "a = upper f", "b = upper a", "c = upper b")
	for _, c := range []struct {
		r    api.Rule
		want error
	}{
		{api.Rule{}, api.ErrName},
		{api.Rule{Out: "d", Kind: "none"}, api.ErrKind},
		{api.Rule{Out: "d", Kind: "upper"}, api.ErrShape},
		{api.Rule{Out: "d", Kind: "write", Word: strings.Repeat("x", 101)}, api.ErrLong},
		{api.Rule{Out: "d", Kind: "upper", Inputs: []string{"d"}}, api.ErrExist},
		{api.Rule{Out: "a", Kind: "write"}, api.ErrExist},
	} {
		l := append(slices.Clone(ok), c.r)
		faults(t, x, l, []string{"a", "what"}, 0, c.want)
		faults(t, nil, l, []string{"a", "what"}, 0, api.ErrShape)
	}
	faults(t, x, make([]api.Rule, api.MaxRules+1), []string{"a"}, 0, api.ErrBound)
	faults(t, nil, ok, []string{"a"}, 0, api.ErrShape)
	faults(t, nil, nil, []string{"", "a"}, 0, api.ErrShape)
}

// P120: each script is played in a yard of its own, and its sum stands at its place.
func TestPlays(t *testing.T) {
	nothing := "\n"
	// 8 * 60 puts `x`, a line break, `x`, two line breaks into a; 14 makes a.up; 5 makes all.
	put, one, all := 8*60, 14, 5
	made := "a.up 5\nX\nX\n\n\n\n"
	plays(t, [][]int{{put, one}}, made)
	plays(t, [][]int{{put}, {one}, {put, one}, nil, {}, {put, -1, all}, {all, put}}, nothing+"a.up", nothing, made, nothing, nothing, made, nothing+"a.up")
	plays(t, nil)
	plays(t, [][]int{})
}

// P120: of a script as much is played as play.Run plays.
func TestLongScript(t *testing.T) {
	script := make([]int, api.MaxSteps+1)
	for i := range script {
		script[i] = -1
	}
	script[0], script[api.MaxSteps] = 8*60, 14
	plays(t, [][]int{script, script[:api.MaxSteps]}, "\na.up", "\na.up")
	script[api.MaxSteps-1] = 14
	plays(t, [][]int{script, {math.MaxInt, math.MinInt}}, "a.up 5\nX\nX\n\n\n\n", "\n")
}

// P120: errors bare, in the order in which the document names them: workers, then how many, ahead of all else.
func TestErrors(t *testing.T) {
	x, l := files(t, "f", "f"), sheetOf(t, "a = upper f")
	for _, c := range []struct {
		many, workers int
		want          error
	}{
		{0, 0, api.ErrShape},
		{1, 0, api.ErrShape},
		{1, -1, api.ErrShape},
		{1, api.Workers + 1, api.ErrShape},
		{0, api.Workers + 1, api.ErrShape},
		{101, 0, api.ErrShape},
		{101, api.Workers + 1, api.ErrShape},
		{1, math.MinInt, api.ErrShape},
		{1, math.MaxInt, api.ErrShape},
		{101, 1, api.ErrBound},
		{101, api.Workers, api.ErrBound},
		{1 << 16, 2, api.ErrBound},
	} {
		outs := make([]string, c.many) // each of them has an error of its own
		for _, x := range []*tree.Tree{x, nil} {
			for _, l := range [][]api.Rule{l, nil, {{}}} {
				if got, err := Wants(x, l, outs, c.workers); len(got) > 0 || err != c.want {
					t.Errorf("Wants of %d by %d is %.60q, %v, not %v", c.many, c.workers, got, err, c.want)
				}
			}
		}
		if got, err := Plays(make([][]int, c.many), c.workers); len(got) > 0 || err != c.want {
			t.Errorf("Plays of %d by %d is %.60q, %v, not %v", c.many, c.workers, got, err, c.want)
		}
	}
}

// P120: as many as there may be.
func TestMost(t *testing.T) {
	var outs, want, sums []string
	var l []api.Rule
	for i := range api.MaxRules {
		l = append(l, api.Rule{Out: fmt.Sprint("o", i), Kind: "write", Word: fmt.Sprint(i)})
	}
	for i := range 100 {
		outs, want = append(outs, fmt.Sprint("o", i*7%api.MaxRules)), append(want, fmt.Sprint(i*7%api.MaxRules))
		sums = append(sums, "\n")
	}
	tells(t, tree.New(), l, outs, want...)
	plays(t, make([][]int, 100), sums...)
	outs[99] = "what"
	faults(t, tree.New(), l, outs, 99, api.ErrNone)
}

// P4: what is handed over is only read; what lies behind a list's length is neither read nor written; answers are new memory.
func TestMemory(t *testing.T) {
	x := files(t, "f", "f")
	l := sheetOf(t, "a = join f g", "b = upper a", "a2 = write")
	l[0].Inputs, l[2].Out = l[0].Inputs[:1], "a"
	outs := []string{"a", "b", "what"}
	tells(t, x, l[:2], outs[:2], "f", "F")
	if x.Text() != "f 1\nf\n" || !slices.Equal(outs, []string{"a", "b", "what"}) {
		t.Errorf("%q, %q", x.Text(), outs)
	}
	want := []api.Rule{{Out: "a", Kind: "join", Inputs: []string{"f"}}, {Out: "b", Kind: "upper", Inputs: []string{"a"}}, {Out: "a", Kind: "write"}}
	want[2].Inputs = l[2].Inputs
	if !reflect.DeepEqual(l, want) || l[0].Inputs[:2][1] != "g" {
		t.Errorf("%q", l)
	}
	scripts := [][]int{{8 * 60, 14, 12}, {5}, {8 * 60}}
	scripts[0] = scripts[0][:2]
	made := "a.up 5\nX\nX\n\n\n\n"
	plays(t, scripts[:2], made, "\n")
	if !reflect.DeepEqual(scripts, [][]int{{8 * 60, 14}, {5}, {8 * 60}}) || scripts[0][:3][2] != 12 {
		t.Errorf("%v", scripts)
	}
	one, _ := Plays(scripts[:2], 2)
	two, _ := Plays(scripts[:2], 2)
	clear(one)
	if !slices.Equal(two, []string{made, "\n"}) || play.Sum(play.New()) != "\n" {
		t.Errorf("%q", two)
	}
}
