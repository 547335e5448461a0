package play

import (
	"fmt"
	"maps"
	"math"
	"math/rand"
	"slices"
	"strings"
	"sync"
	"testing"

	"kilnfield/api"
	"kilnfield/plain"
	"kilnfield/yard"
)

// needed rules of each out.
var needed = map[string]string{"all": "all a.up b.up", "a.up": "a.up", "b.up": "b.up", "srt": "srt", "cnt": "cnt all a.up b.up srt", "hd": "hd srt"}

// twin of a play, told plainly: files and outs in maps.
type twin struct{ files, out map[string]string }

// newTwin without files.
func newTwin() *twin { return &twin{map[string]string{}, map[string]string{}} }

// has: the bytes of some files or outs, if all are there.
func (w *twin) has(names ...string) ([]string, bool) {
	var l []string
	for _, p := range names {
		s, is := w.files[p]
		if _, made := needed[p]; made {
			s, is = w.tell(p)
		}
		if !is {
			return nil, false
		}
		l = append(l, s)
	}
	return l, true
}

// parts of bytes that consist of lines of x, each without its line break.
func parts(inputs []string) []string {
	var l []string
	for _, s := range inputs {
		for s != "" {
			line, rest, _ := strings.Cut(s, "\n")
			l, s = append(l, line), rest
		}
	}
	return l
}

// tell an out, if it can be made.
func (w *twin) tell(out string) (string, bool) {
	inputs := map[string]string{"all": "a.up b.up", "a.up": "a", "b.up": "b", "srt": "a b c", "cnt": "all srt", "hd": "srt"}[out]
	l, is := w.has(strings.Fields(inputs)...)
	if !is {
		return "", false
	}
	switch out {
	case "all":
		return l[0] + "+" + l[1], true
	case "srt":
		lines := parts(l)
		slices.Sort(lines)
		return strings.Join(append(lines, ""), "\n"), true
	case "cnt":
		return fmt.Sprintln(len(parts(l)), len(l[0])+len(l[1])), true
	case "hd":
		return parts(l)[0] + "\n", true
	default:
		return strings.ReplaceAll(l[0], "x", "X"), true
	}
}

// lay what is needed for some outs.
func (w *twin) lay(outs ...string) {
	for _, out := range outs {
		for _, p := range strings.Fields(needed[out]) {
			delete(w.out, p)
			if s, is := w.tell(p); is {
				w.out[p] = s
			}
		}
	}
}

// change the twin by a number; its answer.
func (w *twin) change(v int) int {
	if v < 0 {
		return -1
	}
	q := v >> 3
	p := "abc"[q%3 : q%3+1]
	switch _, is := w.files[p]; v & 7 {
	case 4:
		if !is {
			return 6
		}
		delete(w.files, p)
	case 5:
		w.lay("all", "cnt", "hd")
	case 6:
		w.lay(strings.Fields("all a.up b.up srt cnt hd")[q%6])
	case 7:
		w.lay("hd", "cnt")
	default:
		w.files[p] = strings.NewReplacer("1", "x", "0", "\n").Replace(fmt.Sprintf("%05b", q/3&31))
	}
	return 0
}

// textOf files or outs.
func textOf(files map[string]string) string {
	var b strings.Builder
	for _, p := range slices.Sorted(maps.Keys(files)) {
		fmt.Fprintf(&b, "%s %d\n%s\n", p, len(files[p]), files[p])
	}
	return b.String()
}

// sum of the twin.
func (w *twin) sum() string {
	var stale []string
	for _, p := range []string{"a.up", "all", "b.up", "cnt", "hd", "srt"} {
		s, is := w.out[p]
		if want, wanted := w.tell(p); want != s || wanted != is {
			stale = append(stale, p)
		}
	}
	return textOf(w.out) + "\n" + strings.Join(stale, " ")
}

// byHand: a step of a play, by the yard's own calls.
func byHand(y *yard.Yard, v int) int {
	q := v / 8
	p := string(rune('a' + q%3))
	var err error
	switch {
	case v < 0:
		return -1
	case v%8 < 4:
		bytes := make([]byte, 5)
		for i := range bytes {
			bytes[4-i] = "\nx"[q/3>>i&1]
		}
		err = y.Tree().Put(p, string(bytes))
	case v%8 == 4:
		err = y.Tree().Remove(p)
	default:
		_, err = y.Make([][]string{nil, {Sheet()[q%6].Out}, {"hd", "cnt"}}[v%8-5])
	}
	code, _ := plain.Code(err)
	return code
}

// anyScript by chance; some numbers are great, and some below 0.
func anyScript(r *rand.Rand) []int {
	script := make([]int, r.Intn(80))
	for i := range script {
		switch r.Intn(12) {
		case 0:
			script[i] = int(r.Uint64())
		case 1:
			script[i] = []int{math.MinInt, math.MaxInt, -1, 0}[r.Intn(4)]
		default:
			script[i] = r.Intn(8 * 3 * 40)
		}
	}
	return script
}

// P110, P111: scripts by chance, step by step: answers, files and sums are as they are told plainly; the cache is as that of a yard that was played by hand: later builds have the same of it.
func TestAnyScripts(t *testing.T) {
	r := rand.New(rand.NewSource(110))
	seen := map[string]int{}
	for range 200 {
		y, hand, w := New(), New(), newTwin()
		before := w.sum()
		for _, v := range anyScript(r) {
			got := Run(y, []int{v})
			if want := w.change(v); len(got) != 1 || got[0] != want || byHand(hand, v) != want {
				t.Fatalf("Run of %d is %v, not %d", v, got, want)
			}
			if a, b := y.Tree().Text(), textOf(w.files); a != b {
				t.Fatalf("behind %d the files are %q, not %q", v, a, b)
			}
			sum := Sum(y)
			if want := w.sum(); sum != want {
				t.Fatalf("behind %d the sum is %q, not %q", v, sum, want)
			}
			seen[fmt.Sprint("answer ", got[0])]++
			if sum != before && v >= 0 {
				seen[fmt.Sprint("step ", max(3, v%8))]++
			}
			before = sum
		}
		for range 2 {
			n, err := y.Make(nil)
			if want, _ := hand.Make(nil); n != want || err != nil {
				t.Fatalf("%+v, %v, not %+v", n, err, want)
			}
			seen["hit"] += n.Hit
		}
	}
	for _, what := range []string{"answer 0", "answer 6", "answer -1", "step 3", "step 4", "step 5", "step 6", "step 7", "hit"} {
		if seen[what] < 100 {
			t.Errorf("%d of %q are too few", seen[what], what)
		}
	}
}

// P112: the same script makes the same play: whole or in pieces, also beside others.
func TestSamePlay(t *testing.T) {
	r := rand.New(rand.NewSource(112))
	for range 60 {
		script := anyScript(r)
		y := New()
		want, sum := fmt.Sprint(Run(y, script)), Sum(y)
		var plays sync.WaitGroup
		for at := range 4 {
			plays.Go(func() {
				y := New()
				cut := len(script) * at / 4
				answers := slices.Concat(Run(y, script[:cut]), Run(y, script[cut:]))
				if got := fmt.Sprint(answers); got != want || Sum(y) != sum {
					t.Errorf("Run of %v is %s, not %s; the sum is %q, not %q", script, got, want, Sum(y), sum)
				}
			})
		}
		plays.Wait()
	}
}

// P1, P112: as long as a script can be, a play ends soon, and is the same again.
func TestLongPlay(t *testing.T) {
	r := rand.New(rand.NewSource(111))
	script := make([]int, api.MaxSteps)
	for i := range script {
		script[i] = r.Intn(8*3*32) - 20
	}
	one, two := New(), New()
	if a, b := Run(one, script), Run(two, script); len(a) != api.MaxSteps || !slices.Equal(a, b) || Sum(one) != Sum(two) {
		t.Errorf("%d answers and %d; sums %q and %q", len(a), len(b), Sum(one), Sum(two))
	}
}
