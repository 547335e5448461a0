package yard

import (
	"fmt"
	"math/rand"
	"slices"
	"strings"
	"testing"

	"kilnfield/act"
	"kilnfield/api"
	"kilnfield/build"
	"kilnfield/cache"
	"kilnfield/graph"
	"kilnfield/tree"
)

// twin of a yard, told plainly: files and results in maps; its cache is asked by builds of its own.
type twin struct {
	files, out map[string]string
	rules      []api.Rule
	cache      *cache.Cache
}

// maker of a path; -1: none.
func (w *twin) maker(p string) int {
	return slices.IndexFunc(w.rules, func(r api.Rule) bool { return r.Out == p })
}

// tell the bytes of a path, if it has some.
func (w *twin) tell(p string) (string, bool) {
	i := w.maker(p)
	if i < 0 {
		s, is := w.files[p]
		return s, is
	}
	var inputs []string
	for _, in := range w.rules[i].Inputs {
		s, is := w.tell(in)
		if !is {
			return "", false
		}
		inputs = append(inputs, s)
	}
	s, err := act.Run(w.rules[i].Kind, w.rules[i].Word, inputs)
	return s, err == nil
}

// stale outs of a twin, rising.
func (w *twin) stale() []string {
	var l []string
	for _, r := range w.rules {
		want, wanted := w.tell(r.Out)
		if s, is := w.out[r.Out]; is != wanted || s != want {
			l = append(l, r.Out)
		}
	}
	slices.Sort(l)
	return l
}

// takes: has a twin's Out a place for a path?
func (w *twin) takes(p string) bool {
	if _, is := w.out[p]; is {
		return true
	}
	for other := range w.out {
		if strings.HasPrefix(other, p+"/") || strings.HasPrefix(p, other+"/") {
			return false
		}
	}
	return len(w.out) < api.MaxFiles
}

// needed: is a rule needed for some outs?
func (w *twin) needed(outs []string, i int) bool {
	return slices.ContainsFunc(outs, func(p string) bool {
		at := w.maker(p)
		return at >= 0 && (at == i || w.needed(w.rules[at].Inputs, i))
	})
}

// lay what is needed for some outs; those that Out did not take.
func (w *twin) lay(t *testing.T, outs []string) []string {
	t.Helper()
	order, err := graph.Order(w.rules)
	if err != nil {
		t.Fatal(err)
	}
	order = slices.DeleteFunc(order, func(i int) bool { return !w.needed(outs, i) })
	var refused, gone []string
	for _, i := range order {
		p := w.rules[i].Out
		s, is := w.tell(p)
		switch {
		case !is:
			gone = append(gone, p)
		case w.takes(p):
			w.out[p] = s
		default:
			refused = append(refused, p)
		}
	}
	for _, p := range gone {
		delete(w.out, p)
	}
	slices.Sort(refused)
	return refused
}

// count of a build of some outs with the twin's cache.
func (w *twin) count(t *testing.T, outs []string) build.Count {
	t.Helper()
	b, err := build.New(treeOf(t, w.files), w.rules, outs, w.cache)
	if err != nil {
		t.Fatal(err)
	}
	return b.All()
}

// treeOf files.
func treeOf(t *testing.T, files map[string]string) *tree.Tree {
	t.Helper()
	x := tree.New()
	for p, s := range files {
		put(t, x, p, s)
	}
	return x
}

// session: a yard, its twin, and chance.
type session struct {
	y    *Yard
	w    *twin
	r    *rand.Rand
	seen map[string]int
}

// newSession with some room.
func newSession(t *testing.T, r *rand.Rand, seen map[string]int) *session {
	t.Helper()
	many := 1 + r.Intn(20)
	c, err := cache.New(many)
	if err != nil {
		t.Fatal(err)
	}
	return &session{begin(t, many), &twin{files: map[string]string{}, out: map[string]string{}, cache: c}, r, seen}
}

// one of some texts.
func (s *session) one(texts ...string) string { return texts[s.r.Intn(len(texts))] }

// change a file of the yard, or take it away.
func (s *session) change(t *testing.T) {
	t.Helper()
	p := s.one("a", "b", "c/a", "c/b", "o1")
	if _, is := s.w.files[p]; is && s.r.Intn(3) == 0 {
		remove(t, s.y.Tree(), p)
		delete(s.w.files, p)
		return
	}
	bytes := s.one("", "x", "y\nx\n", "X", strings.Repeat("xy\n", 500))
	put(t, s.y.Tree(), p, bytes)
	s.w.files[p] = bytes
}

// meddle with Out by hand.
func (s *session) meddle(t *testing.T) {
	t.Helper()
	p := s.one("o0", "o1", "o2", "o3/o4", "o3", "other", fmt.Sprint("f", s.r.Intn(100)))
	if _, is := s.w.out[p]; is && s.r.Intn(2) == 0 {
		remove(t, s.y.Out(), p)
		delete(s.w.out, p)
	} else if s.w.takes(p) {
		put(t, s.y.Out(), p, "x")
		s.w.out[p] = "x"
	} else {
		s.seen["no place"]++
	}
}

// sheet: other rules; such with a round are refused.
func (s *session) sheet(t *testing.T) {
	t.Helper()
	l := anySheet(s)
	_, err := graph.Order(l)
	if again := s.y.Rules(l); again != err {
		t.Fatalf("Rules of %q: %v, not %v", l, again, err)
	}
	if err != nil {
		s.seen["rounds"]++
		return
	}
	s.w.rules = l
}

// anySheet of a few rules, some of which lie below others.
func anySheet(s *session) []api.Rule {
	outs := []string{"o0", "o1", "o2", s.one("o3", "c"), s.one("o4", "o3/o4", "o2/o4", "c/b"), s.one("o5", "o3/o5"), "o6", "o7"}
	var l []api.Rule
	for _, i := range s.r.Perm(len(outs))[:s.r.Intn(1+len(outs))] {
		c := []struct {
			kind, word string
			most       int
		}{{"write", "w", 0}, {"join", "+", 3}, {"join", "", 3}, {"upper", "", 1}, {"lines", "x", 1}, {"sort", "once", 3}, {"count", "", 3}, {"head", "1", 1}}[s.r.Intn(8)]
		r := api.Rule{Out: outs[i], Kind: c.kind, Word: c.word}
		for range c.most {
			p := s.one("a", "b", "c/a", "c/b")
			if i > 0 && s.r.Intn(2) > 0 {
				p = outs[s.r.Intn(i)]
			}
			if s.r.Intn(60) == 0 {
				p = s.one(outs...)
			}
			if p != r.Out && !slices.Contains(r.Inputs, p) {
				r.Inputs = append(r.Inputs, p)
			}
		}
		if c.most > 0 && len(r.Inputs) == 0 {
			r.Inputs = []string{"a"}
		}
		l = append(l, r)
	}
	return l
}

// make some outs, or all.
func (s *session) make(t *testing.T) {
	t.Helper()
	var all, outs []string
	for _, r := range s.w.rules {
		all = append(all, r.Out)
	}
	for range s.r.Intn(3) * min(1, len(all)) {
		outs = append(outs, s.one(all...))
	}
	needed := outs
	if len(outs) == 0 {
		needed = all
	}
	want := s.w.count(t, needed)
	if n, err := s.y.Make(outs); n != want || err != nil {
		t.Fatalf("Make of %q is %+v, %v, not %+v", outs, n, err, want)
	}
	refused := s.w.lay(t, needed)
	if len(outs) == 0 && !slices.Equal(s.y.Stale(), refused) {
		t.Fatalf("behind Make of all %q are stale, but Out did not take %q", s.y.Stale(), refused)
	}
	s.seen["refused"] += len(refused)
	s.seen["hit"] += want.Hit
	s.seen["failed"] += want.Failed
	s.seen["left"] += want.Left
}

// hold a yard against its twin.
func (s *session) hold(t *testing.T) {
	t.Helper()
	if a, b := s.y.Tree().Text(), treeOf(t, s.w.files).Text(); a != b {
		t.Fatalf("files: %.300q, not %.300q", a, b)
	}
	if a, b := s.y.Out().Text(), treeOf(t, s.w.out).Text(); a != b {
		t.Fatalf("Out: %.300q, not %.300q", a, b)
	}
	stale := s.w.stale()
	if !slices.Equal(s.y.Stale(), stale) {
		t.Fatalf("stale: %q, not %q", s.y.Stale(), stale)
	}
	s.seen["stale"] += len(stale)
}

// P90 to P92: long sessions by chance: what is made, counted and stale is as it is told plainly; and behind Make of all nothing is stale but what Out did not take.
func TestSessions(t *testing.T) {
	r := rand.New(rand.NewSource(92))
	seen := map[string]int{}
	for range 300 {
		s := newSession(t, r, seen)
		for range 60 {
			switch r.Intn(10) {
			case 0:
				s.sheet(t)
			case 1, 2, 3:
				s.change(t)
			case 4, 5:
				s.meddle(t)
			default:
				s.make(t)
			}
			s.hold(t)
		}
	}
	for _, what := range []string{"refused", "hit", "failed", "left", "stale", "rounds", "no place"} {
		if seen[what] < 50 {
			t.Errorf("%d of %q are too few", seen[what], what)
		}
	}
}

// P1, P91: calls end soon, however many ways lead to a rule, whether it has an error or not.
func TestManyWays(t *testing.T) {
	y := begin(t, 1)
	l := []api.Rule{{Out: "o0", Kind: "upper", Inputs: []string{"f"}}}
	for i := 1; i < api.MaxRules; i++ {
		r := api.Rule{Out: fmt.Sprint("o", i), Kind: "count"}
		for j := max(0, i-api.MaxInputs); j < i; j++ {
			r.Inputs = append(r.Inputs, l[j].Out)
		}
		l = append(l, r)
	}
	slices.Reverse(l)
	if err := y.Rules(l); err != nil {
		t.Fatal(err)
	}
	holds(t, y, "", "")
	makes(t, y, "", build.Count{Failed: 1, Left: api.MaxRules - 1})
	put(t, y.Tree(), "f", "f")
	if stale := y.Stale(); len(stale) != api.MaxRules {
		t.Errorf("stale: %q", stale)
	}
	if n, err := y.Make([]string{"o39"}); n.Ran+n.Hit != api.MaxRules || err != nil {
		t.Errorf("Make is %+v, %v", n, err)
	}
	if stale := y.Stale(); len(stale) > 0 {
		t.Errorf("stale: %q", stale)
	}
}
