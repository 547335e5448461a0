package script

import (
	"fmt"
	"math/rand"
	"slices"
	"strings"
	"sync"
	"testing"

	"kilnfield/api"
	"kilnfield/graph"
	"kilnfield/want"
	"kilnfield/yard"
)

// hand plays a script by hand: a line is told as it is done, so that no line has to be read.
type hand struct {
	yard  *yard.Yard
	rules []api.Rule
	lines []string
	want  []string
}

// newHand with a yard of its own.
func newHand(t testing.TB) *hand {
	t.Helper()
	y, err := yard.New(8)
	if err != nil {
		t.Fatal(err)
	}
	return &hand{yard: y}
}

// say a line with its answer; with an error that is its answer.
func (h *hand) say(line, answer string, err error) {
	if err != nil {
		answer = err.Error()
	}
	h.lines, h.want = append(h.lines, line), append(h.want, answer)
}

// list of paths, as an answer.
func list(l []string) string {
	if len(l) == 0 {
		return "nothing"
	}
	return strings.Join(l, " ")
}

// anyPath by chance: a few, of which some lie below others.
func anyPath(r *rand.Rand) string {
	return []string{"a", "a", "b", "b", "d/e", "d", "o1", "o2", "o3", "o/4"}[r.Intn(10)]
}

// anyOut by chance: mostly one that the rules have.
func (h *hand) anyOut(r *rand.Rand) string {
	if len(h.rules) == 0 || r.Intn(8) == 0 {
		return anyPath(r)
	}
	return h.rules[r.Intn(len(h.rules))].Out
}

// anyRule by chance.
func anyRule(r *rand.Rand) api.Rule {
	x := api.Rule{Out: []string{"o1", "o2", "o3", "o/4", "o"}[r.Intn(5)], Kind: []string{"join", "upper", "sort", "count"}[r.Intn(4)]}
	if x.Kind == "join" {
		x.Word = []string{"", "+", "\n", "\" "}[r.Intn(4)]
	}
	for range 1 + r.Intn(2) {
		x.Inputs = append(x.Inputs, anyPath(r))
	}
	return x
}

// lineOfAny: a rule of chance as a line.
func lineOfAny(x api.Rule) string {
	s := x.Out + " = " + x.Kind
	if x.Word != "" {
		s += " \"" + strings.NewReplacer("\"", "\\\"", "\n", "\\n").Replace(x.Word) + "\""
	}
	return s + " " + strings.Join(x.Inputs, " ")
}

// change by chance a file or the rules.
func (h *hand) change(r *rand.Rand) {
	switch r.Intn(8) {
	case 0, 1, 2:
		p, text := anyPath(r), []string{"", "x", "b;a", "; y;", strings.Repeat("z", api.MaxBytes-1)}[r.Intn(5)]
		h.say("put "+p+" "+text, "ok", h.yard.Tree().Put(p, strings.ReplaceAll(text, ";", "\n")))
	case 3:
		p := anyPath(r)
		h.say("drop "+p, "ok", h.yard.Tree().Remove(p))
	case 4, 5, 6:
		x := anyRule(r)
		err := h.yard.Rules(append(slices.Clone(h.rules), x))
		if err == nil {
			h.rules = append(h.rules, x)
		}
		h.say("rule "+lineOfAny(x), "ok", err)
	default:
		if r.Intn(4) == 0 {
			h.rules = nil
			h.say("clear", "ok", h.yard.Rules(nil))
		}
	}
}

// make by chance all, or some.
func (h *hand) make(r *rand.Rand) {
	var outs []string
	for range r.Intn(3) {
		outs = append(outs, h.anyOut(r))
	}
	n, err := h.yard.Make(outs)
	h.say(strings.Join(append([]string{"make"}, outs...), " "), fmt.Sprint(n.Ran, n.Hit, n.Failed, n.Left), err)
}

// ask by chance what is there.
func (h *hand) ask(r *rand.Rand) {
	p := h.anyOut(r)
	switch r.Intn(6) {
	case 0:
		s, is := h.yard.Out().Get(p)
		if !is {
			s, is = h.yard.Tree().Get(p)
		}
		err := api.ErrNone
		if is {
			err = nil
		}
		h.say("show "+p, strings.ReplaceAll(s, "\n", ";"), err)
	case 1:
		s, err := want.Of(h.yard.Tree(), h.rules, p)
		h.say("want "+p, strings.ReplaceAll(s, "\n", ";"), err)
	case 2:
		h.say("stale", list(h.yard.Stale()), nil)
	case 3:
		order, err := graph.Order(h.rules)
		var outs []string
		for _, i := range order {
			outs = append(outs, h.rules[i].Out)
		}
		h.say("order", list(outs), err)
	case 4:
		leaves, err := graph.Leaves(h.rules)
		h.say("leaves", list(leaves), err)
	default:
		h.say("files", list(h.yard.Tree().Paths()), nil)
	}
}

// anyHand: a script by chance, played by hand.
func anyHand(t testing.TB, r *rand.Rand) *hand {
	t.Helper()
	h := newHand(t)
	for n := r.Intn(api.MaxLines + 1); len(h.lines) < n; {
		switch r.Intn(5) {
		case 0, 1:
			h.change(r)
		case 2:
			h.make(r)
		case 3:
			h.ask(r)
		default:
			if r.Intn(3) == 0 {
				h.say([]string{"", "what", "put a", "drop A", "rule x", "make ", "show a b", "stale x"}[r.Intn(8)], "", api.ErrText)
			}
		}
	}
	return h
}

// P130, P131: scripts by chance answer as they do by hand.
func TestAny(t *testing.T) {
	r := rand.New(rand.NewSource(130))
	seen := map[string]int{}
	for range 1500 {
		h := anyHand(t, r)
		got, err := Run(h.lines)
		if err != nil || !slices.Equal(got, h.want) {
			t.Fatalf("%q: %q, %v, not %q", h.lines, got, err, h.want)
		}
		for i, s := range got {
			name, _, _ := strings.Cut(h.lines[i], " ")
			if strings.HasPrefix(s, "kilnfield: ") {
				seen[s]++
			} else {
				seen[name]++
			}
		}
	}
	for _, s := range []string{noText, noNone, noExist, noCycle, noLong, noShape, "put", "drop", "rule", "clear", "make", "show", "want", "stale", "order", "leaves", "files"} {
		if seen[s] < 10 {
			t.Errorf("%v: %q is too rare", seen, s)
		}
	}
}

// P132: the same lines make the same answers, also beside other scripts.
func TestSame(t *testing.T) {
	r := rand.New(rand.NewSource(132))
	for range 60 {
		h := anyHand(t, r)
		var calls sync.WaitGroup
		for range 4 {
			calls.Go(func() {
				if got, err := Run(h.lines); err != nil || !slices.Equal(got, h.want) {
					t.Errorf("%q: %q, %v, not %q", h.lines, got, err, h.want)
				}
			})
		}
		calls.Wait()
	}
}

// P132: an answer hangs on the lines ahead alone.
func TestAhead(t *testing.T) {
	r := rand.New(rand.NewSource(133))
	for range 200 {
		h := anyHand(t, r)
		n := r.Intn(len(h.lines) + 1)
		if got, err := Run(h.lines[:n]); err != nil || !slices.Equal(got, h.want[:n]) {
			t.Fatalf("%q: %q, %v, not %q", h.lines[:n], got, err, h.want[:n])
		}
	}
}

// changesNothing: a line that only asks, or that answered an error.
func changesNothing(line, answer string) bool {
	name, _, _ := strings.Cut(line, " ")
	return strings.HasPrefix(answer, "kilnfield: ") || slices.Contains([]string{"show", "want", "stale", "order", "leaves", "files"}, name)
}

// P3: lines that only ask, and lines with an error, change no answer of another one.
func TestLeftOut(t *testing.T) {
	r := rand.New(rand.NewSource(134))
	for range 400 {
		h := anyHand(t, r)
		var lines, want []string
		for i, line := range h.lines {
			if !changesNothing(line, h.want[i]) || r.Intn(2) == 0 {
				lines, want = append(lines, line), append(want, h.want[i])
			}
		}
		if got, err := Run(lines); err != nil || !slices.Equal(got, want) {
			t.Fatalf("%q: %q, %v, not %q", lines, got, err, want)
		}
	}
}

// P1: lines of any bytes: each has an answer.
func TestAnyBytes(t *testing.T) {
	r := rand.New(rand.NewSource(131))
	pieces := []string{"put", "drop", "rule", "clear", "make", "show", "want", "stale", "order", "leaves", "files", " ", " ", " ", " ", "a", "b", "a/b", " = ", "upper", "write", "join", "\"", "\\", ";", "\n", "..", "\xff", "é", "**"}
	for range 2000 {
		lines := make([]string, r.Intn(20))
		for i := range lines {
			for range r.Intn(8) {
				lines[i] += pieces[r.Intn(len(pieces))]
			}
		}
		got, err := Run(lines)
		if again, fails := Run(lines); err != nil || fails != nil || len(got) != len(lines) || !slices.Equal(got, again) {
			t.Fatalf("%q: %q, %v; %q, %v", lines, got, err, again, fails)
		}
	}
}
