package pick

import (
	"fmt"
	"math/rand"
	"reflect"
	"slices"
	"strings"
	"testing"

	"kilnfield/api"
	"kilnfield/graph"
)

// chain of rules: each needs the one behind it; the last one needs what is told.
func chain(n int, last string) []api.Rule {
	var inputs []string
	for i := range n - 1 {
		inputs = append(inputs, name(i+1))
	}
	return sheetOf(append(inputs, last)...)
}

// leveled: a sheet has these levels, and is so deep.
func leveled(t *testing.T, l []api.Rule, want [][]int) {
	t.Helper()
	if levels, err := Levels(l); fmt.Sprint(levels) != fmt.Sprint(want) || err != nil {
		t.Errorf("Levels(%q) is %v, %v, not %v", l, levels, err, want)
	}
	if n, err := Deep(l); n != len(want) || err != nil {
		t.Errorf("Deep(%q) is %d, %v, not %d", l, n, err, len(want))
	}
}

// P101: a rule that needs none has level 0, else one more than the greatest of what it needs.
func TestLevels(t *testing.T) {
	for _, c := range []struct {
		l    []api.Rule
		want [][]int
	}{
		{nil, nil},
		{[]api.Rule{}, nil},
		{sheetOf(""), [][]int{{0}}},
		{sheetOf("x"), [][]int{{0}}},
		{sheetOf("", "x y", "z"), [][]int{{0, 1, 2}}},
		{sheetOf("", "o0"), [][]int{{0}, {1}}},
		{sheetOf("o1", ""), [][]int{{1}, {0}}},
		{sheetOf("o1", "o2", "o3", ""), [][]int{{3}, {2}, {1}, {0}}},
		// The greatest counts, wherever it stands among the inputs.
		{sheetOf("", "o0", "o0 o1"), [][]int{{0}, {1}, {2}}},
		{sheetOf("", "o0", "o1 o0"), [][]int{{0}, {1}, {2}}},
		{sheetOf("", "o0", "o1", "x o0 o2 o1 y", "o3 o0"), [][]int{{0}, {1}, {2}, {3}, {4}}},
		// Rising, not in the order in which they could run.
		{sheetOf("o3", "o0", "o3", "", "o5", "x", "o2"), [][]int{{3, 5}, {0, 2, 4}, {1, 6}}},
		{sheetOf("o4", "o3", "x", "o2", ""), [][]int{{2, 4}, {0, 3}, {1}}},
		// What only looks like an out is none.
		{sheetOf("o1/o0", "o0/o1", "o"), [][]int{{0, 1, 2}}},
	} {
		leveled(t, c.l, c.want)
	}
}

// P101: as deep as a sheet can be, and as broad.
func TestGreatLevels(t *testing.T) {
	var deep, broad [][]int
	all := make([]int, api.MaxRules)
	for i := range all {
		all[i] = i
		deep = append(deep, []int{api.MaxRules - 1 - i})
	}
	broad = append(broad, all)
	leveled(t, chain(api.MaxRules, "x"), deep)
	leveled(t, sheetOf(make([]string, api.MaxRules)...), broad)
}

// P101: graph.Order's errors, as they are, and nothing beside them.
func TestLevelFaults(t *testing.T) {
	long := sheetOf(make([]string, api.MaxRules+1)...)
	twice := sheetOf("", "", "")
	twice[2].Out = "o0"
	kind := sheetOf("o1", "o0")
	kind[1].Kind = "none"
	for _, l := range [][]api.Rule{
		sheetOf("o1", "o0"),
		sheetOf("", "o2", "o1", ""),
		chain(api.MaxRules, "o0"),
		chain(api.MaxRules, "o38"),
		sheetOf("o0"),
		sheetOf("", "A"),
		sheetOf("o1", "o0", "a//b"),
		long, twice, kind,
		{{}},
	} {
		_, want := graph.Order(l)
		if want == nil {
			t.Fatalf("%q has an order", l)
		}
		if levels, err := Levels(l); len(levels) > 0 || !reflect.DeepEqual(err, want) {
			t.Errorf("Levels(%q) is %v, %v, not %v", l, levels, err, want)
		}
		if n, err := Deep(l); n != 0 || !reflect.DeepEqual(err, want) {
			t.Errorf("Deep(%q) is %d, %v, not %v", l, n, err, want)
		}
	}
	if _, err := Levels(sheetOf("o1", "o0")); err != api.ErrCycle {
		t.Errorf("Levels of a round: %v", err)
	}
	if f, ok := second(Deep(twice)).(*api.Fault); !ok || *f != (api.Fault{At: 2, Err: api.ErrExist}) {
		t.Errorf("Deep of an out that is made twice: %v", f)
	}
}

// second of two results.
func second(_ int, err error) error { return err }

// P3, P4: rules are only read, and nothing behind them is; each level is memory of its own.
func TestLevelMemory(t *testing.T) {
	all := sheetOf("", "o0", "o0", "o0 o1", "")
	l := all[:4:5]
	l[3].Inputs = all[3].Inputs[:1]
	levels, err := Levels(l)
	if fmt.Sprint(levels) != "[[0] [1 2 3]]" || err != nil {
		t.Fatalf("%v, %v", levels, err)
	}
	for _, level := range levels {
		_ = append(level, 9, 9, 9)
	}
	if fmt.Sprint(levels) != "[[0] [1 2 3]]" {
		t.Errorf("levels share memory: %v", levels)
	}
	for _, level := range levels {
		clear(level)
	}
	leveled(t, l, [][]int{{0}, {1, 2, 3}})
	l[3].Inputs = l[3].Inputs[:2]
	if !reflect.DeepEqual(all, sheetOf("", "o0", "o0", "o0 o1", "")) {
		t.Errorf("%q", all)
	}
	leveled(t, all, [][]int{{0, 4}, {1, 2}, {3}})
}

// height of a rule, told plainly: of what it needs the greatest, and one more.
func height(l []api.Rule, i int) int {
	most := 0
	for j, r := range l {
		if slices.Contains(l[i].Inputs, r.Out) {
			most = max(most, 1+height(l, j))
		}
	}
	return most
}

// P101: levels of sheets by chance; each rule stands in just one, and all that it needs below it.
func TestAnyLevels(t *testing.T) {
	r := rand.New(rand.NewSource(101))
	deepest := 0
	for range 2000 {
		n := 1 + r.Intn(14)
		inputs := make([]string, n)
		row := r.Perm(n)
		for at, i := range row {
			for _, j := range row[:at] {
				if r.Intn(n) < 2 && strings.Count(inputs[i], "o") < api.MaxInputs {
					inputs[i] += " " + name(j)
				}
			}
		}
		l := sheetOf(inputs...)
		var want [][]int
		for h := range n {
			var level []int
			for i := range l {
				if height(l, i) == h {
					level = append(level, i)
				}
			}
			if len(level) > 0 {
				want = append(want, level)
			}
		}
		deepest = max(deepest, len(want))
		leveled(t, l, want)
	}
	if deepest < 6 {
		t.Errorf("%d levels are too few", deepest)
	}
}

// P1, P101: calls end soon, however many ways lead to a rule.
func TestManyWays(t *testing.T) {
	var inputs []string
	var want [][]int
	for i := range api.MaxRules {
		var in []string
		for j := max(0, i-api.MaxInputs); j < i; j++ {
			in = append(in, name(j))
		}
		inputs = append(inputs, strings.Join(in, " "))
		want = append(want, []int{i})
	}
	leveled(t, sheetOf(inputs...), want)
}
