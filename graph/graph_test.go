package graph

import (
	"fmt"
	"math"
	"slices"
	"strconv"
	"strings"
	"testing"

	"kilnfield/api"
)

// name of the out of a rule.
func name(i int) string { return "o" + strconv.Itoa(i) }

// sheetOf: of each rule its inputs, with blanks between; the outs are o0, o1 ..
func sheetOf(inputs ...string) []api.Rule {
	var l []api.Rule
	for i, in := range inputs {
		r := api.Rule{Out: name(i), Kind: "join", Inputs: strings.Fields(in)}
		if len(r.Inputs) == 0 {
			r.Kind = "write"
		}
		l = append(l, r)
	}
	return l
}

// chain of rules: each needs the one behind it; the last one needs what is told.
func chain(n int, last string) []api.Rule {
	var inputs []string
	for i := range n - 1 {
		inputs = append(inputs, name(i+1))
	}
	return sheetOf(append(inputs, last)...)
}

// told: numbers or texts, where nil and none are one thing.
func told[T any](l []T) string { return fmt.Sprint(l) }

// isFault: is an error a fault with just that place and that error?
func isFault(err error, at int, want error) bool {
	f, ok := err.(*api.Fault)
	return ok && f.At == at && f.Err == want
}

// answers of all calls, with their errors.
func answers(l []api.Rule, outs []string) (texts []string, errs []error) {
	order, e0 := Order(l)
	cycle, e1 := Cycle(l)
	needs, e2 := Needs(l, outs)
	leaves, e3 := Leaves(l)
	return []string{told(order), told(cycle), told(needs), told(leaves)}, []error{e0, e1, e2, e3}
}

// P50: each rule behind all that it needs, and of those that may come the least first.
func TestOrder(t *testing.T) {
	for _, c := range []struct {
		l    []api.Rule
		want string
	}{
		{nil, "[]"},
		{[]api.Rule{}, "[]"},
		{sheetOf(""), "[0]"},
		{sheetOf("", "", ""), "[0 1 2]"},
		{sheetOf("x", "x y", "z"), "[0 1 2]"},
		{sheetOf("", "o0", "o1"), "[0 1 2]"},
		{sheetOf("o1", "o2", ""), "[2 1 0]"},
		{sheetOf("o2", "", ""), "[1 2 0]"},
		{sheetOf("o3", "", "o3", ""), "[1 3 0 2]"},
		{sheetOf("o4 o1", "", "o0", "", "x"), "[1 3 4 0 2]"},
		{sheetOf("o2 o3", "o2 o3", "", ""), "[2 3 0 1]"},
		{sheetOf("o3", "o2", "", "o1"), "[2 1 3 0]"},
		{sheetOf("", "o5", "o4 o1", "", "o3 o0", ""), "[0 3 4 5 1 2]"},
		{sheetOf("o1/o0", "o0/o1", "o"), "[0 1 2]"},
		{chain(api.MaxRules, ""), "[39 38 37 36 35 34 33 32 31 30 29 28 27 26 25 24 23 22 21 20 19 18 17 16 15 14 13 12 11 10 9 8 7 6 5 4 3 2 1 0]"},
	} {
		if order, err := Order(c.l); told(order) != c.want || err != nil {
			t.Errorf("Order(%q) is %v, %v, not %s", c.l, order, err, c.want)
		}
	}
}

// P50: where there is no order, the error stands alone and without a place.
func TestOrderNone(t *testing.T) {
	for _, l := range [][]api.Rule{
		sheetOf("o1", "o0"),
		sheetOf("", "o2", "o1", ""),
		sheetOf("o1", "o2", "o1"),
		sheetOf("", "o0", "o1 o3", "o2 o0"),
		chain(api.MaxRules, "o0"),
		chain(api.MaxRules, "o38"),
	} {
		if order, err := Order(l); len(order) > 0 || err != api.ErrCycle {
			t.Errorf("Order(%q) is %v, %v", l, order, err)
		}
	}
}

// An order for those that are chosen: what they need of the others does not count.
func TestOrderOf(t *testing.T) {
	l := sheetOf("o3", "o2", "o1", "", "o0 o2")
	for _, c := range []struct {
		chosen string
		want   string
	}{
		{"", "[]"}, {"3", "[3]"}, {"0", "[0]"}, {"03", "[3 0]"}, {"134", "[1 3 4]"}, {"034", "[3 0 4]"}, {"024", "[0 2 4]"}, {"0134", "[1 3 0 4]"},
	} {
		var asked []int
		order, err := OrderOf(l, func(i int) bool {
			asked = append(asked, i)
			return strings.Contains(c.chosen, strconv.Itoa(i))
		})
		if told(order) != c.want || err != nil || told(asked) != "[0 1 2 3 4]" {
			t.Errorf("OrderOf %q is %v, %v; asked for %v", c.chosen, order, err, asked)
		}
	}
	for _, chosen := range []string{"12", "0123", "01234"} {
		if order, err := OrderOf(l, func(i int) bool { return strings.Contains(chosen, strconv.Itoa(i)) }); len(order) > 0 || err != api.ErrCycle {
			t.Errorf("OrderOf %q is %v, %v", chosen, order, err)
		}
	}
	if order, err := OrderOf(sheetOf("", "", "o2"), func(int) bool { return false }); len(order) > 0 || !isFault(err, 2, api.ErrExist) {
		t.Errorf("OrderOf is %v, %v", order, err)
	}
}

// P51: the round of the least number that lies on one; the shortest; of these the one with the lesser numbers.
func TestCycle(t *testing.T) {
	for _, c := range []struct {
		l    []api.Rule
		want string
	}{
		{nil, "[]"},
		{sheetOf("", "o0", "o0 o1"), "[]"},
		{sheetOf("o2 o1", "o2", ""), "[]"},
		{chain(api.MaxRules, "x"), "[]"},
		{sheetOf("o1", "o0"), "[0 1]"},
		{sheetOf("x", "o2", "o1"), "[1 2]"},
		// One that only leads to a round does not lie on it.
		{sheetOf("o1", "o2", "o1"), "[1 2]"},
		{sheetOf("o3", "o2 o0", "o1", ""), "[1 2]"},
		{sheetOf("", "o0 o4", "o1", "o4 o0", "o3"), "[3 4]"},
		{sheetOf("", "o0 o4", "o1", "o4 o2", "o3"), "[1 4 3 2]"},
		// Least first, even if another round is shorter.
		{sheetOf("o1", "o2", "o0 o3", "o4", "o3"), "[0 1 2]"},
		{sheetOf("o3", "o2", "o1", "o4", "o0"), "[0 3 4]"},
		// Shortest, even if its numbers are greater.
		{sheetOf("o1 o4", "o2", "o3", "o0", "o0"), "[0 4]"},
		{sheetOf("o1 o3", "o2", "o4", "o4", "o0"), "[0 3 4]"},
		{sheetOf("o2", "o0", "o3 o4", "o1", "o0"), "[0 2 4]"},
		// Step by step the lesser number, whatever the order of the inputs.
		{sheetOf("o2 o1", "o0", "o0"), "[0 1]"},
		{sheetOf("o3 o2 o1", "x", "o0", "o0"), "[0 2]"},
		{sheetOf("o3", "o0", "o0", "o2 o1"), "[0 3 1]"},
		{sheetOf("o2 o1", "o4", "o3", "o0", "o0"), "[0 1 4]"},
		{sheetOf("o1 o2", "o5 o4", "o3", "o0", "o0", "o0"), "[0 1 4]"},
		{sheetOf("o1", "o4 o3 o2", "o1", "o0", "o0"), "[0 1 3]"},
		{chain(4, "o1 o0"), "[0 1 2 3]"},
		{chain(4, "o2"), "[2 3]"},
		{chain(api.MaxRules, "o38"), "[38 39]"},
		{chain(5, "o3 o2 o1"), "[1 2 3 4]"},
	} {
		if cycle, err := Cycle(c.l); told(cycle) != c.want || err != nil {
			t.Errorf("Cycle(%q) is %v, %v, not %s", c.l, cycle, err, c.want)
		}
	}
	cycle, err := Cycle(chain(api.MaxRules, "o0"))
	if len(cycle) != api.MaxRules || !slices.IsSorted(cycle) || err != nil {
		t.Errorf("a round of all rules is %v, %v", cycle, err)
	}
}

// P51: what is needed at whatever depth, with the rules of the outs themselves; a round is no error.
func TestNeeds(t *testing.T) {
	l := sheetOf("o3 o5", "", "o1", "o4 x", "o2", "o6", "o5")
	for _, c := range []struct {
		outs string
		want string
	}{
		{"", "[]"}, {"o1", "[1]"}, {"o2", "[1 2]"}, {"o4", "[1 2 4]"}, {"o3", "[1 2 3 4]"},
		{"o5", "[5 6]"}, {"o6", "[5 6]"}, {"o0", "[0 1 2 3 4 5 6]"},
		{"o6 o1", "[1 5 6]"}, {"o1 o6", "[1 5 6]"}, {"o1 o1 o1", "[1]"}, {"o2 o1 o2", "[1 2]"}, {"o1 o2 o4 o3", "[1 2 3 4]"},
	} {
		if needs, err := Needs(l, strings.Fields(c.outs)); told(needs) != c.want || err != nil {
			t.Errorf("Needs of %q is %v, %v, not %s", c.outs, needs, err, c.want)
		}
	}
	if needs, err := Needs(nil, nil); len(needs) > 0 || err != nil {
		t.Errorf("Needs of nothing is %v, %v", needs, err)
	}
	if needs, err := Needs(chain(api.MaxRules, "o0"), slices.Repeat([]string{"o7"}, 1<<16)); len(needs) != api.MaxRules || !slices.IsSorted(needs) || err != nil {
		t.Errorf("Needs of a round is %v, %v", needs, err)
	}
}

// P51: the first out that no rule makes; an input is none, and neither is what is no path.
func TestNeedsNone(t *testing.T) {
	l := sheetOf("o1 x", "y")
	for _, none := range []string{"x", "y", "o2", "", "O1", "o1 ", "o", "o1/", "./o1", "*", "o*", strings.Repeat("o", 1<<20), "\xff"} {
		for at := range 3 {
			outs := append(slices.Repeat([]string{"o1"}, at), none, "o0", "z")
			if needs, err := Needs(l, outs); len(needs) > 0 || !isFault(err, at, api.ErrNone) {
				t.Errorf("Needs of %.60q is %v, %v", outs, needs, err)
			}
			if needs, err := Needs(nil, outs[at:]); len(needs) > 0 || !isFault(err, 0, api.ErrNone) {
				t.Errorf("Needs of %.60q without rules is %v, %v", outs, needs, err)
			}
		}
	}
}

// P51: inputs that no rule makes, by their bytes, each once.
func TestLeaves(t *testing.T) {
	for _, c := range []struct {
		l    []api.Rule
		want string
	}{
		{nil, "[]"},
		{sheetOf("", ""), "[]"},
		{sheetOf("o1", "o0"), "[]"},
		{sheetOf("z"), "[z]"},
		{sheetOf("z y", "x o0 y", "x"), "[x y z]"},
		{sheetOf("b a/b a.b a-b a_b a a9 ab"), "[a a-b a.b a/b a9 a_b ab b]"},
		{sheetOf("o1 o1/a o2", "o10 o"), "[o o1/a o10 o2]"},
		{sheetOf("x", "x o2", "o1 x"), "[x]"},
	} {
		if leaves, err := Leaves(c.l); told(leaves) != c.want || err != nil {
			t.Errorf("Leaves(%q) is %v, %v, not %s", c.l, leaves, err, c.want)
		}
	}
	var inputs []string
	for i := range api.MaxRules {
		var in []string
		for j := range api.MaxInputs {
			in = append(in, fmt.Sprintf("i%03d", 999-i*api.MaxInputs-j))
		}
		inputs = append(inputs, strings.Join(in, " "))
	}
	if leaves, err := Leaves(sheetOf(inputs...)); len(leaves) != api.MaxRules*api.MaxInputs || !slices.IsSorted(leaves) || err != nil {
		t.Errorf("%d leaves: %v, %v", len(leaves), leaves, err)
	}
}

// P50, P51: rule.Sheet's errors, ahead of all others.
func TestSheetErrors(t *testing.T) {
	round := sheetOf("o1", "o0")
	for _, c := range []struct {
		r    api.Rule
		want error
	}{
		{api.Rule{}, api.ErrName},
		{api.Rule{Out: "A", Kind: "write"}, api.ErrName},
		{api.Rule{Out: "a", Kind: "what"}, api.ErrKind},
		{api.Rule{Out: "a", Kind: "upper"}, api.ErrShape},
		{api.Rule{Out: "a", Kind: "write", Word: strings.Repeat("w", 101)}, api.ErrLong},
		{api.Rule{Out: "a", Kind: "upper", Inputs: []string{"B"}}, api.ErrName},
		{api.Rule{Out: "a", Kind: "upper", Inputs: []string{"a"}}, api.ErrExist},
		{api.Rule{Out: "a", Kind: "join", Inputs: []string{"b", "b"}}, api.ErrExist},
		{api.Rule{Out: "o1", Kind: "write"}, api.ErrExist},
	} {
		for _, outs := range [][]string{nil, {"o0"}, {"none"}} {
			texts, errs := answers(append(slices.Clone(round), c.r, api.Rule{}), outs)
			for i, err := range errs {
				if texts[i] != "[]" || !isFault(err, 2, c.want) {
					t.Errorf("call %d with %.60q is %s, %v", i, c.r, texts[i], err)
				}
			}
		}
	}
	for _, l := range [][]api.Rule{chain(api.MaxRules+1, "o0"), make([]api.Rule, api.MaxRules+1), make([]api.Rule, 1<<16)} {
		texts, errs := answers(l, []string{"none"})
		for i, err := range errs {
			if texts[i] != "[]" || err != api.ErrBound {
				t.Errorf("call %d with %d rules is %s, %v", i, len(l), texts[i], err)
			}
		}
	}
}

// P4: what is handed over is only read, also behind its length.
func TestOnlyRead(t *testing.T) {
	const spare = 3
	for _, inputs := range [][]string{{"z o2 y", "x o0 y", "o1 w"}, {"z o2 y", "x y", "o1 w"}} {
		l := append(sheetOf(inputs...), make([]api.Rule, spare)...)
		outs := []string{"o2", "o0", "o2", "none", "O", ""}
		for i := range inputs {
			l[i].Inputs = append(l[i].Inputs, "o0", "behind", "")
		}
		before := fmt.Sprintf("%q %q", l, outs)
		short := slices.Clone(l)
		for i := range inputs {
			short[i].Inputs = l[i].Inputs[:len(l[i].Inputs)-spare]
		}
		first, errs := answers(short[:len(inputs)], outs[:3])
		if errs[1] != nil || errs[2] != nil || errs[3] != nil {
			t.Errorf("answers with %v", errs)
		}
		if after := fmt.Sprintf("%q %q", l, outs); after != before {
			t.Errorf("%s became %s", before, after)
		}
		if again, _ := answers(sheetOf(inputs...), []string{"o2", "o0"}); told(again) != told(first) {
			t.Errorf("%s, and with nothing behind %s", first, again)
		}
	}
}

// P4: an answer is new memory: what is written into it shows in no later one, nor in the rules.
func TestNewMemory(t *testing.T) {
	round, line := sheetOf("o1 x", "o0 y"), sheetOf("o1 x", "y")
	for range 2 {
		order, _ := Order(line)
		cycle, _ := Cycle(round)
		needs, _ := Needs(line, []string{"o0"})
		leaves, _ := Leaves(line)
		if told(order) != "[1 0]" || told(cycle) != "[0 1]" || told(needs) != "[0 1]" || told(leaves) != "[x y]" {
			t.Errorf("%v %v %v %v", order, cycle, needs, leaves)
		}
		for _, l := range [][]int{order, cycle, needs} {
			l[0], l[1] = math.MinInt, math.MaxInt
			_ = append(l, -1)
		}
		leaves[0], leaves[1] = "", "O"
	}
	if told(line) != told(sheetOf("o1 x", "y")) || told(round) != told(sheetOf("o1 x", "o0 y")) {
		t.Errorf("rules became %v, %v", line, round)
	}
}
