package graph

import (
	"fmt"
	"math/rand"
	"slices"
	"strings"
	"testing"

	"kilnfield/api"
)

// web: which rule needs which, as a table.
type web [][]bool

// webOf n rules: each bit tells whether a rule needs another one.
func webOf(n, bits int) web {
	w := make(web, n)
	for i := range w {
		w[i] = make([]bool, n)
		for j := range w[i] {
			if i != j {
				w[i][j] = bits&1 == 1
				bits >>= 1
			}
		}
	}
	return w
}

// anyWeb: some needs by chance, of a fixed seed.
func anyWeb(r *rand.Rand, n, most int) web {
	w := webOf(n, 0)
	for i := range w {
		for range r.Intn(most + 1) {
			if j := r.Intn(n); j != i {
				w[i][j] = true
			}
		}
	}
	return w
}

// rules of a web, with inputs rising or falling, and a leaf for every third one.
func (w web) rules(falling bool) []api.Rule {
	var inputs []string
	for i := range w {
		var in []string
		for j := range w {
			if w[i][j] {
				in = append(in, name(j))
			}
		}
		if i%3 == 2 {
			in = append(in, "leaf")
		}
		if falling {
			slices.Reverse(in)
		}
		inputs = append(inputs, strings.Join(in, " "))
	}
	return sheetOf(inputs...)
}

// order: the first that fits, of all rows, those with the lesser numbers first.
func (w web) order(ahead []int) []int {
	if len(ahead) == len(w) {
		return slices.Clone(ahead)
	}
	for i := range w {
		fits := !slices.Contains(ahead, i)
		for j := range w {
			fits = fits && (!w[i][j] || slices.Contains(ahead, j))
		}
		if fits {
			if l := w.order(append(ahead, i)); l != nil {
				return l
			}
		}
	}
	return nil
}

// rounds: all that go on from a row of rules and come back to its first one.
func (w web) rounds(row []int, take func([]int)) {
	last := row[len(row)-1]
	for j := range w {
		if !w[last][j] {
			continue
		}
		if j == row[0] {
			take(slices.Clone(row))
		} else if !slices.Contains(row, j) {
			w.rounds(append(row, j), take)
		}
	}
}

// cycle: of all rounds that begin with the least number that lies on one, the shortest, then the least.
func (w web) cycle() []int {
	for i := range w {
		var best []int
		w.rounds([]int{i}, func(l []int) {
			if best == nil || len(l) < len(best) || len(l) == len(best) && slices.Compare(l, best) < 0 {
				best = l
			}
		})
		if best != nil {
			return best
		}
	}
	return nil
}

// needs: what is come to from some rules, by going on until nothing more comes.
func (w web) needs(some []int) []int {
	in := make([]bool, len(w))
	for _, i := range some {
		in[i] = true
	}
	for range w {
		for i := range w {
			for j := range w {
				in[j] = in[j] || in[i] && w[i][j]
			}
		}
	}
	var l []int
	for i := range in {
		if in[i] {
			l = append(l, i)
		}
	}
	return l
}

// hold the program's answers against those that a look at all rows gives.
func (w web) hold(t *testing.T, some []int) {
	t.Helper()
	wantOrder, wantCycle, wantNeeds := w.order(nil), w.cycle(), w.needs(some)
	var outs []string
	for _, i := range some {
		outs = append(outs, name(i))
	}
	for _, falling := range []bool{false, true} {
		l := w.rules(falling)
		order, err := Order(l)
		if told(order) != told(wantOrder) || (err == api.ErrCycle) != (len(wantCycle) > 0) || err != nil && err != api.ErrCycle {
			t.Errorf("Order(%q) is %v, %v, not %v", l, order, err, wantOrder)
		}
		if cycle, err := Cycle(l); told(cycle) != told(wantCycle) || err != nil {
			t.Errorf("Cycle(%q) is %v, %v, not %v", l, cycle, err, wantCycle)
		}
		if needs, err := Needs(l, outs); told(needs) != told(wantNeeds) || err != nil {
			t.Errorf("Needs(%q, %q) is %v, %v, not %v", l, outs, needs, err, wantNeeds)
		}
		leaves, err := Leaves(l)
		if want := fmt.Sprint([]string{"leaf"}[:min(1, len(w)/3)]); told(leaves) != want || err != nil {
			t.Errorf("Leaves(%q) is %v, %v, not %v", l, leaves, err, want)
		}
	}
}

// P50, P51: all ways in which up to four rules need each other.
func TestAllSmall(t *testing.T) {
	for n := range 5 {
		for bits := range 1 << (n * max(n-1, 0)) {
			var some []int
			for i := range n {
				if (bits+bits/7)>>i&1 == 1 {
					some = append(some, i)
				}
			}
			webOf(n, bits).hold(t, some)
		}
	}
}

// P50, P51: some ways in which up to eight rules need each other.
func TestSome(t *testing.T) {
	r := rand.New(rand.NewSource(5))
	for range 3000 {
		n := 5 + r.Intn(4)
		w := anyWeb(r, n, 1+r.Intn(3))
		w.hold(t, []int{r.Intn(n), r.Intn(n)})
	}
}

// P52: there is an order, or a cycle, and never both; each is what it says.
func TestOrderOrCycle(t *testing.T) {
	r := rand.New(rand.NewSource(52))
	orders, cycles := 0, 0
	for range 3000 {
		w := anyWeb(r, 1+r.Intn(api.MaxRules), 1+r.Intn(2))
		if r.Intn(2) == 0 {
			for i := range w {
				clear(w[i][i:])
			}
		}
		l := w.rules(r.Intn(2) == 0)
		order, err := Order(l)
		cycle, fails := Cycle(l)
		if fails != nil || (err == nil) != (len(cycle) == 0) || err != nil && err != api.ErrCycle {
			t.Fatalf("Order(%q) is %v, %v; Cycle is %v, %v", l, order, err, cycle, fails)
		}
		if err == nil {
			orders++
			w.isOrder(t, order)
		} else {
			cycles++
			w.isRound(t, cycle)
		}
	}
	if orders < 500 || cycles < 500 {
		t.Errorf("%d orders and %d cycles are too few", orders, cycles)
	}
}

// isOrder: each rule once, and behind all that it needs.
func (w web) isOrder(t *testing.T, order []int) {
	t.Helper()
	all := slices.Sorted(slices.Values(order))
	for i := range w {
		if len(all) != len(w) || all[i] != i {
			t.Fatalf("%v does not have each of %d rules once", order, len(w))
		}
	}
	for at, i := range order {
		for _, j := range order[at:] {
			if w[i][j] {
				t.Fatalf("in %v %d comes ahead of %d", order, i, j)
			}
		}
	}
}

// isRound: each needs the one behind it, the last one the first one; the first is the least.
func (w web) isRound(t *testing.T, round []int) {
	t.Helper()
	for at, i := range round {
		if next := round[(at+1)%len(round)]; !w[i][next] {
			t.Fatalf("in %v %d does not need %d", round, i, next)
		}
		if i < round[0] || slices.Contains(round[:at], i) {
			t.Fatalf("%v has %d at %d", round, i, at)
		}
	}
}
