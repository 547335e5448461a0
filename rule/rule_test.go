package rule

import (
	"errors"
	"fmt"
	"strconv"
	"strings"
	"testing"

	"kilnfield/api"
)

// of: a rule in one line.
func of(out, kind, word string, inputs ...string) api.Rule {
	return api.Rule{Out: out, Kind: kind, Word: word, Inputs: inputs}
}

// numbered inputs: i0, i1 ..
func numbered(n int) []string {
	var l []string
	for i := range n {
		l = append(l, "i"+strconv.Itoa(i))
	}
	return l
}

// manyRules: o0, o1 ..
func manyRules(n int) []api.Rule {
	var l []api.Rule
	for i := range n {
		l = append(l, of("o"+strconv.Itoa(i), "write", ""))
	}
	return l
}

// same rules, where nil and no inputs are one thing.
func same(a, b []api.Rule) bool { return fmt.Sprintf("%q", a) == fmt.Sprintf("%q", b) }

// isFault: is an error a fault with just that place and that error?
func isFault(err error, at int, want error) bool {
	f, ok := err.(*api.Fault)
	return ok && f.At == at && f.Err == want
}

// notWell: rules with what Check says of them.
func notWell() []struct {
	rule api.Rule
	want error
} {
	long, deep := strings.Repeat("x", 13), "a/b/c/d/e/f"
	return []struct {
		rule api.Rule
		want error
	}{
		{api.Rule{}, api.ErrName},
		{of("", "write", ""), api.ErrName},
		{of("A", "write", ""), api.ErrName},
		{of("a/", "write", ""), api.ErrName},
		{of("a b", "write", ""), api.ErrName},
		{of("..", "write", ""), api.ErrName},
		{of("a/../b", "write", ""), api.ErrName},
		{of(long, "write", ""), api.ErrName},
		{of(deep, "write", ""), api.ErrName},
		{of(strings.Repeat("a/", 1<<20), "write", ""), api.ErrName},
		{of("a", "", ""), api.ErrKind},
		{of("a", "Write", ""), api.ErrKind},
		{of("a", "write ", ""), api.ErrKind},
		{of("a", "write", "", "b"), api.ErrShape},
		{of("a", "upper", ""), api.ErrShape},
		{of("a", "upper", "", "b", "c"), api.ErrShape},
		{of("a", "upper", "w", "b"), api.ErrShape},
		{of("a", "swap", "x", "b"), api.ErrShape},
		{of("a", "head", "01", "b"), api.ErrShape},
		{of("a", "join", "", numbered(9)...), api.ErrShape},
		{of("a", "join", "", make([]string, 1<<20)...), api.ErrShape},
		{of("a", "write", strings.Repeat("w", 101)), api.ErrLong},
		{of("a", "join", strings.Repeat("\"", 101), "b"), api.ErrLong},
		{of("a", "upper", "", ""), api.ErrName},
		{of("a", "upper", "", "B"), api.ErrName},
		{of("a", "upper", "", "/b"), api.ErrName},
		{of("a", "upper", "", "./b"), api.ErrName},
		{of("a", "upper", "", "*"), api.ErrName},
		{of("a", "upper", "", "b\n"), api.ErrName},
		{of("a", "upper", "", long), api.ErrName},
		{of("a", "upper", "", deep), api.ErrName},
		{of("a", "sort", "", "b", "c", "d "), api.ErrName},
		{of("a", "join", "", "\xff", "b"), api.ErrName},
		{of("a", "upper", "", "a"), api.ErrExist},
		{of("a", "join", "", "b", "a"), api.ErrExist},
		{of("a/b", "join", "", "a/b", "b"), api.ErrExist},
		{of("a", "join", "", "b", "b"), api.ErrExist},
		{of("a", "count", "", "b", "c", "b"), api.ErrExist},
		{of("a", "join", "", append(numbered(7), "i0")...), api.ErrExist},
		{of("a", "join", "", append(numbered(7), "i6")...), api.ErrExist},
		// Of several errors the first that the chapter names.
		{of("A", "what", "", "A"), api.ErrName},
		{of("A", "upper", ""), api.ErrName},
		{of("a", "what", strings.Repeat("w", 101), "B"), api.ErrKind},
		{of("a", "upper", "", "B", "B"), api.ErrShape},
		{of("a", "upper", "w", "a"), api.ErrShape},
		{of("a", "join", strings.Repeat("w", 101), "B"), api.ErrLong},
		{of("a", "join", strings.Repeat("w", 101), "a"), api.ErrLong},
		{of("a", "join", "", "b", "b", "C"), api.ErrName},
		{of("a", "join", "", "a", "C"), api.ErrName},
		{of("a", "join", "", "C", "C"), api.ErrName},
	}
}

// well: rules of all kinds.
func well() []api.Rule {
	return []api.Rule{
		of("a", "write", ""), of("a", "write", "w"), of("a", "write", strings.Repeat("\n", 100)),
		{Out: "a", Kind: "write", Inputs: []string{}},
		of("a", "join", "", "b"), of("a", "join", " ", numbered(8)...), of("a/b", "join", "", "a", "a/c", "b", "b/a"),
		of("a", "upper", "", "b"), of("a", "upper", "", "a/a"), of("a/a", "upper", "", "a"),
		of("a", "lines", "", "b"), of("a", "lines", "\"", "b"),
		of("a", "sort", "", "b", "c"), of("a", "sort", "once", "c", "b"),
		of("a", "count", "", numbered(8)...),
		of("a", "swap", "x=", "b"), of("a", "swap", " =\"", "b"),
		of("a", "head", "0", "b"), of("a", "head", "999", "b"),
		of("a.b_c-9", "upper", "", "..."), of("abcdefghijkl/b/c/d/e", "upper", "", "abcdefghijkl/b/c/d/f"),
	}
}

// P40: a rule that is well, and each error, without a place.
func TestCheck(t *testing.T) {
	for _, r := range well() {
		if err := Check(r); err != nil {
			t.Errorf("Check(%.80q) is %v", r, err)
		}
	}
	for _, c := range notWell() {
		if err := Check(c.rule); err != c.want {
			t.Errorf("Check(%.80q) is %v, not %v", c.rule, err, c.want)
		}
	}
}

// P40: a sheet tells the first rule that is not well, with its place.
func TestSheet(t *testing.T) {
	for _, l := range [][]api.Rule{nil, {}, {of("a", "write", ""), of("a/b", "upper", "", "a"), of("b", "upper", "", "c")},
		{of("a", "upper", "", "b"), of("b", "upper", "", "a")}} {
		if err := Sheet(l); err != nil {
			t.Errorf("Sheet(%q) is %v", l, err)
		}
	}
	for _, r := range well() {
		if err := Sheet([]api.Rule{r}); err != nil {
			t.Errorf("Sheet of %.80q is %v", r, err)
		}
	}
	for _, c := range notWell() {
		for at := range 3 {
			l := append(manyRules(at), c.rule, of("o0", "what", ""))
			if err := Sheet(l); !isFault(err, at, c.want) {
				t.Errorf("Sheet with %.80q at %d is %v, not %v", c.rule, at, err, c.want)
			}
		}
	}
}

// P40: no two rules make the same file.
func TestSheetTwice(t *testing.T) {
	for i, c := range []struct {
		l    []api.Rule
		at   int
		want error
	}{
		{[]api.Rule{of("a", "write", ""), of("a", "write", "")}, 1, api.ErrExist},
		{[]api.Rule{of("a", "write", ""), of("b", "write", ""), of("a", "upper", "", "c")}, 2, api.ErrExist},
		{[]api.Rule{of("a", "write", ""), of("b", "write", ""), of("b", "write", ""), of("a", "write", "")}, 2, api.ErrExist},
		{[]api.Rule{of("a", "write", ""), of("a", "write", ""), of("B", "write", "")}, 1, api.ErrExist},
		{[]api.Rule{of("a", "write", ""), of("B", "write", ""), of("a", "write", "")}, 1, api.ErrName},
		{[]api.Rule{of("a", "write", ""), of("a", "what", "")}, 1, api.ErrKind},
		{[]api.Rule{of("a", "write", ""), of("a", "upper", "", "B")}, 1, api.ErrName},
		{append(manyRules(39), of("o0", "write", "")), 39, api.ErrExist},
		{append(manyRules(39), of("o38", "write", "")), 39, api.ErrExist},
	} {
		if err := Sheet(c.l); !isFault(err, c.at, c.want) {
			t.Errorf("%d: Sheet is %v, not %v at %d", i, err, c.want, c.at)
		}
		if s, err := Text(c.l); s != "" || !isFault(err, c.at, c.want) {
			t.Errorf("%d: Text is %q, %v, not %v at %d", i, s, err, c.want, c.at)
		}
	}
}

// P40: a sheet has at most MaxRules, whatever they are.
func TestSheetBound(t *testing.T) {
	if err := Sheet(manyRules(api.MaxRules)); err != nil {
		t.Error(err)
	}
	for _, l := range [][]api.Rule{manyRules(api.MaxRules + 1), make([]api.Rule, api.MaxRules+1), make([]api.Rule, 1<<20), append(manyRules(3), manyRules(api.MaxRules)...)} {
		if err := Sheet(l); err != api.ErrBound {
			t.Errorf("Sheet of %d is %v", len(l), err)
		}
		if s, err := Text(l); s != "" || err != api.ErrBound {
			t.Errorf("Text of %d is %.40q, %v", len(l), s, err)
		}
	}
	if err := Sheet(make([]api.Rule, api.MaxRules)); !isFault(err, 0, api.ErrName) {
		t.Error(err)
	}
}

// P3, P4: rules are only read, and nothing behind a list's length is.
func TestOnlyReads(t *testing.T) {
	inputs := []string{"b", "c", "c", "A", "a"}
	all := []api.Rule{{Out: "a", Kind: "join", Word: "\"", Inputs: inputs[:2]}, of("d", "write", "w"), of("d", "what", ""), of("A", "", "")}
	kept := fmt.Sprintf("%q %q", inputs, all)
	err := Sheet(all[:2])
	s, fails := Text(all[:2])
	if err != nil || fails != nil || Check(all[0]) != nil || s != "a = join \"\\\"\" b c\nd = write \"w\"\n" {
		t.Errorf("%q, %v, %v", s, err, fails)
	}
	if now := fmt.Sprintf("%q %q", inputs, all); now != kept {
		t.Errorf("rules are changed: %s", now)
	}
}

// P3: a fault wraps its error, and what is told without a place has none.
func TestFaultWraps(t *testing.T) {
	var f *api.Fault
	if err := Sheet([]api.Rule{of("a", "write", ""), of("b", "upper", "", "b")}); !errors.Is(err, api.ErrExist) || !errors.As(err, &f) || f.At != 1 {
		t.Error(err)
	}
	for _, c := range notWell() {
		if errors.As(Check(c.rule), &f) {
			t.Errorf("Check(%.80q) tells a place", c.rule)
		}
	}
}
