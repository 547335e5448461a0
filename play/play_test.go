package play

import (
	"fmt"
	"math"
	"reflect"
	"slices"
	"strings"
	"testing"

	"kilnfield/api"
	"kilnfield/build"
	"kilnfield/rule"
	"kilnfield/tree"
	"kilnfield/yard"
)

// lines of the sheet, as the document has them.
const lines = "all = join \"+\" a.up b.up\na.up = upper a\nb.up = upper b\nsrt = sort a b c\ncnt = count all srt\nhd = head \"1\" srt\n"

// rulesOf the sheet, read from its lines.
func rulesOf(t testing.TB) []api.Rule {
	t.Helper()
	l, err := rule.Read(lines)
	if err != nil {
		t.Fatal(err)
	}
	return l
}

// put: the number that puts five letters, told by bits, into file 0, 1 or 2.
func put(file, bits int) int { return 8 * (3*bits + file) }

// drop: the number that removes file 0, 1 or 2.
func drop(file int) int { return 8*file + 4 }

// one: the number that makes the out of a rule.
func one(i int) int { return 8*i + 6 }

// told: files of a tree, each as PATH=BYTES, with blanks between and `;` for line breaks.
func told(x *tree.Tree) string {
	var l []string
	for _, p := range x.Paths() {
		s, _ := x.Get(p)
		l = append(l, p+"="+strings.ReplaceAll(s, "\n", ";"))
	}
	return strings.Join(l, " ")
}

// plays: a script has these answers, and then the yard has these files and outs.
func plays(t *testing.T, y *yard.Yard, script []int, answers, files, out string) {
	t.Helper()
	if got := fmt.Sprint(Run(y, script)); got != answers {
		t.Errorf("Run of %v is %s, not %s", script, got, answers)
	}
	if s := told(y.Tree()); s != files {
		t.Errorf("behind %v there are files %q, not %q", script, s, files)
	}
	if s := told(y.Out()); s != out {
		t.Errorf("behind %v Out has %q, not %q", script, s, out)
	}
}

// P110: the sheet, rule by rule, as its lines are read; told again, it is these lines.
func TestSheet(t *testing.T) {
	if l := Sheet(); !reflect.DeepEqual(l, rulesOf(t)) {
		t.Errorf("%q", l)
	}
	if s, err := rule.Text(Sheet()); s != lines || err != nil {
		t.Errorf("%q, %v", s, err)
	}
}

// P4: each sheet is new memory: what is written into one shows neither in another one nor in a play.
func TestSheetIsNew(t *testing.T) {
	y := New()
	l := Sheet()
	for i := range l {
		l[i].Inputs[0] = "z"
		_ = append(l[i].Inputs[:1], "y")
	}
	clear(l)
	if again := Sheet(); !reflect.DeepEqual(again, rulesOf(t)) {
		t.Errorf("%q", again)
	}
	plays(t, y, []int{put(0, 31), one(1)}, "[0 0]", "a=xxxxx", "a.up=XXXXX")
	plays(t, New(), []int{put(1, 31), one(2)}, "[0 0]", "b=xxxxx", "b.up=XXXXX")
}

// P110: a new yard has no files, and these rules.
func TestNew(t *testing.T) {
	y := New()
	if y == nil || told(y.Tree()) != "" || told(y.Out()) != "" {
		t.Fatal(y)
	}
	if n, err := y.Make(nil); n != (build.Count{Failed: 3, Left: 3}) || err != nil {
		t.Errorf("%+v, %v", n, err)
	}
	for i, p := range []string{"a", "b", "c"} {
		if err := y.Tree().Put(p, fmt.Sprintf("%d\nx", i)); err != nil {
			t.Fatal(err)
		}
	}
	if n, err := y.Make(nil); n != (build.Count{Ran: 6}) || err != nil {
		t.Errorf("%+v, %v", n, err)
	}
	if s := told(y.Out()); s != "a.up=0;X all=0;X+1;X b.up=1;X cnt=9 19; hd=0; srt=0;1;2;x;x;x;" {
		t.Errorf("%q", s)
	}
}

// P110: a new yard's cache has room for 8, and nothing in it; another yard has another one.
func TestRoom(t *testing.T) {
	var l []api.Rule
	for i := range 9 {
		l = append(l, api.Rule{Out: fmt.Sprint("o", i), Kind: "write", Word: fmt.Sprint(i)})
	}
	for range 2 {
		y := New()
		for _, c := range []struct {
			rules int
			want  build.Count
		}{{8, build.Count{Ran: 8}}, {8, build.Count{Hit: 8}}, {9, build.Count{Ran: 1, Hit: 8}}, {9, build.Count{Ran: 9}}} {
			if err := y.Rules(l[:c.rules]); err != nil {
				t.Fatal(err)
			}
			if n, err := y.Make(nil); n != c.want || err != nil {
				t.Errorf("%d rules: %+v, %v, not %+v", c.rules, n, err, c.want)
			}
		}
	}
}

// P110: what is put: which file, and which letters.
func TestPut(t *testing.T) {
	for _, c := range []struct {
		v    int
		want string
	}{
		{0, "a=;;;;;"}, {1, "a=;;;;;"}, {2, "a=;;;;;"}, {3, "a=;;;;;"},
		{8, "b=;;;;;"}, {11, "b=;;;;;"}, {16, "c=;;;;;"}, {19, "c=;;;;;"},
		{24, "a=;;;;x"}, {8 * 4, "b=;;;;x"}, {8*5 + 1, "c=;;;;x"},
		{put(0, 2), "a=;;;x;"}, {put(0, 4), "a=;;x;;"}, {put(0, 8), "a=;x;;;"}, {put(0, 16), "a=x;;;;"},
		{put(1, 20) + 1, "b=x;x;;"}, {put(2, 11) + 2, "c=;x;xx"}, {put(0, 31) + 3, "a=xxxxx"}, {put(2, 31), "c=xxxxx"},
		// modulo 32
		{put(0, 32), "a=;;;;;"}, {put(1, 33), "b=;;;;x"}, {put(2, 63), "c=xxxxx"}, {put(2, 64), "c=;;;;;"}, {put(0, 1000*32+10), "a=;x;x;"},
	} {
		plays(t, New(), []int{c.v}, "[0]", c.want, "")
	}
	// other letters for a file that is there
	plays(t, New(), []int{put(0, 31), put(1, 1), put(0, 16)}, "[0 0 0]", "a=x;;;; b=;;;;x", "")
}

// P110: what is removed; what is not there is an error.
func TestRemove(t *testing.T) {
	y := New()
	full := []int{put(0, 1), put(1, 1), put(2, 1)}
	plays(t, y, full, "[0 0 0]", "a=;;;;x b=;;;;x c=;;;;x", "")
	plays(t, y, []int{4, 4}, "[0 6]", "b=;;;;x c=;;;;x", "")
	plays(t, y, []int{drop(2), drop(2), drop(0)}, "[0 6 6]", "b=;;;;x", "")
	plays(t, y, []int{drop(1), drop(1)}, "[0 6]", "", "")
	plays(t, y, full, "[0 0 0]", "a=;;;;x b=;;;;x c=;;;;x", "")
	plays(t, y, []int{drop(3 * 77), drop(3*50 + 2)}, "[0 0]", "b=;;;;x", "")
	plays(t, y, []int{8*3 + 4, 8*4 + 4}, "[6 0]", "", "")
}

// P110: what is made: all, one out, or two.
func TestMake(t *testing.T) {
	full := []int{put(0, 20), put(1, 1), put(2, 31)}
	files := "a=x;x;; b=;;;;x c=xxxxx"
	up, all, srt := "a.up=X;X;;", "all=X;X;;+;;;;X", "srt=;;;;;x;x;x;xxxxx;"
	for _, c := range []struct {
		v    int
		want string
	}{
		{5, up + " " + all + " b.up=;;;;X cnt=17 28; hd=; " + srt},
		{8*99 + 5, up + " " + all + " b.up=;;;;X cnt=17 28; hd=; " + srt},
		{6, up + " " + all + " b.up=;;;;X"},
		{one(1), up},
		{one(2), "b.up=;;;;X"},
		{one(3), srt},
		{one(4), up + " " + all + " b.up=;;;;X cnt=17 28; " + srt},
		{one(5), "hd=; " + srt},
		{one(6), up + " " + all + " b.up=;;;;X"},
		{one(6*500 + 5), "hd=; " + srt},
		{7, up + " " + all + " b.up=;;;;X cnt=17 28; hd=; " + srt},
		{8*3 + 7, up + " " + all + " b.up=;;;;X cnt=17 28; hd=; " + srt},
	} {
		plays(t, New(), append(slices.Clone(full), c.v), "[0 0 0 0]", files, c.want)
	}
}

// P110: a build in which rules fail is no error; hd and cnt need less than all.
func TestMakeFails(t *testing.T) {
	y := New()
	plays(t, y, []int{5, 6, 7, one(5)}, "[0 0 0 0]", "", "")
	y = New()
	plays(t, y, []int{put(0, 0), put(1, 0), put(2, 0), 5}, "[0 0 0 0]", "a=;;;;; b=;;;;; c=;;;;;", "a.up=;;;;; all=;;;;;+;;;;; b.up=;;;;; cnt=25 26; hd=; srt=;;;;;;;;;;;;;;;")
	plays(t, y, []int{drop(1), one(0), 8*2 + 6}, "[0 0 0]", "a=;;;;; c=;;;;;", "a.up=;;;;; cnt=25 26; hd=; srt=;;;;;;;;;;;;;;;")
	plays(t, y, []int{7}, "[0]", "a=;;;;; c=;;;;;", "a.up=;;;;;")
	plays(t, y, []int{drop(0), 5}, "[0 0]", "c=;;;;;", "")
}

// P110, P1: numbers below 0 do nothing, and answer -1; great ones are steps like all others.
func TestNumbers(t *testing.T) {
	y := New()
	plays(t, y, []int{-1, math.MinInt, -8, -5, 0, -4, math.MinInt + 4, -2, -3}, "[-1 -1 -1 -1 0 -1 -1 -1 -1]", "a=;;;;;", "")
	// The greatest int is 7 modulo 8; over 8 it is 2^60-1: 0 modulo 3, and over 3 it is 21 modulo 32.
	q := math.MaxInt / 8
	if math.MaxInt%8 != 7 || q%3 != 0 || q/3%32 != 21 || q%6 != 3 {
		t.Skip("ints are of another size")
	}
	plays(t, y, []int{math.MaxInt - 7, math.MaxInt - 4}, "[0 0]", "a=x;x;x", "")
	plays(t, y, []int{put(1, 0), put(2, 0), math.MaxInt - 1}, "[0 0 0]", "a=x;x;x b=;;;;; c=;;;;;", "srt=;;;;;;;;;;x;x;x;")
	plays(t, y, []int{math.MaxInt - 3, math.MaxInt}, "[0 0]", "b=;;;;; c=;;;;;", "b.up=;;;;;")
}

// P110: of a script at most MaxSteps numbers count: those behind have no answer, and do nothing.
func TestManySteps(t *testing.T) {
	for _, n := range []int{api.MaxSteps - 1, api.MaxSteps, api.MaxSteps + 1, api.MaxSteps + 2, 3 * api.MaxSteps} {
		y := New()
		script := slices.Repeat([]int{-7}, n)
		script[n-1] = put(0, 1)
		answers := Run(y, script)
		if len(answers) != min(n, api.MaxSteps) {
			t.Errorf("%d numbers have %d answers", n, len(answers))
		}
		want := ""
		if n <= api.MaxSteps {
			want = "a=;;;;x"
		}
		if s := told(y.Tree()); s != want {
			t.Errorf("%d numbers: files %q, not %q", n, s, want)
		}
	}
	for _, none := range [][]int{nil, {}} {
		plays(t, New(), none, "[]", "", "")
	}
}

// P110: errors by their numbers, also in a yard that has other rules or files.
func TestOtherYards(t *testing.T) {
	y, err := yard.New(1)
	if err != nil {
		t.Fatal(err)
	}
	// no rules: none of the outs is made, but all of them are
	plays(t, y, []int{5, 6, one(3), 7, put(2, 31)}, "[0 6 6 6 0]", "c=xxxxx", "")
	if err := y.Rules([]api.Rule{{Out: "cnt", Kind: "count", Inputs: []string{"c"}}, {Out: "other", Kind: "write", Word: "w"}}); err != nil {
		t.Fatal(err)
	}
	plays(t, y, []int{one(4), 7, one(5)}, "[0 6 6]", "c=xxxxx", "cnt=1 5;")
	plays(t, y, []int{5}, "[0]", "c=xxxxx", "cnt=1 5; other=w")
	// hd and cnt alone are asked for: no other rule has to be there
	if err := y.Rules([]api.Rule{{Out: "cnt", Kind: "count", Inputs: []string{"c"}}, {Out: "hd", Kind: "write", Word: "h"}}); err != nil {
		t.Fatal(err)
	}
	plays(t, y, []int{7, 6}, "[0 6]", "c=xxxxx", "cnt=1 5; hd=h other=w")
	// a file lies below a
	if err := y.Tree().Put("a/b", ""); err != nil {
		t.Fatal(err)
	}
	plays(t, y, []int{put(0, 31), drop(0), put(2, 0)}, "[7 6 0]", "a/b= c=;;;;;", "cnt=1 5; hd=h other=w")
	// no place for one more
	for i := range api.MaxFiles - 2 {
		if err := y.Tree().Put(fmt.Sprint("f", i), ""); err != nil {
			t.Fatal(err)
		}
	}
	if got := fmt.Sprint(Run(y, []int{put(1, 0), put(2, 31), drop(2), put(1, 0), put(2, 0)})); got != "[8 0 0 0 8]" {
		t.Error(got)
	}
}

// P111: what lies in Out, a line break, what is stale.
func TestSum(t *testing.T) {
	y := New()
	sums := func(script []int, want string) {
		t.Helper()
		Run(y, script)
		for range 2 {
			if s := Sum(y); s != want {
				t.Errorf("behind %v the sum is %q, not %q", script, s, want)
			}
		}
	}
	sums(nil, "\n")
	sums([]int{put(0, 31)}, "\na.up")
	sums([]int{5}, "a.up 5\nXXXXX\n\n")
	sums([]int{put(1, 16), put(2, 0)}, "a.up 5\nXXXXX\n\nall b.up cnt hd srt")
	sums([]int{one(5)}, "a.up 5\nXXXXX\nhd 1\n\n\nsrt 16\n\n\n\n\n\n\n\n\nx\nxxxxx\n\n\nall b.up cnt")
	sums([]int{drop(0)}, "a.up 5\nXXXXX\nhd 1\n\n\nsrt 16\n\n\n\n\n\n\n\n\nx\nxxxxx\n\n\na.up b.up hd srt")
	sums([]int{5}, "b.up 5\nX\n\n\n\n\n\n")
}

// P111: of any yard, also of what no rule makes.
func TestSumOfOthers(t *testing.T) {
	y, err := yard.New(1)
	if err != nil {
		t.Fatal(err)
	}
	if s := Sum(y); s != "\n" {
		t.Errorf("%q", s)
	}
	if err := y.Out().Put("z/y", "1"); err != nil {
		t.Fatal(err)
	}
	if err := y.Rules([]api.Rule{{Out: "q", Kind: "write"}, {Out: "p", Kind: "write"}}); err != nil {
		t.Fatal(err)
	}
	if s := Sum(y); s != "z/y 1\n1\n\np q" {
		t.Errorf("%q", s)
	}
}

// P3, P4: a script is only read, and nothing behind it is; what is answered is new memory.
func TestMemory(t *testing.T) {
	y := New()
	all := []int{put(0, 1), drop(1), put(1, 1), 5}
	answers := Run(y, all[:2])
	if fmt.Sprint(answers) != "[0 6]" || told(y.Tree()) != "a=;;;;x" {
		t.Errorf("%v, %q", answers, told(y.Tree()))
	}
	again := Run(y, all[2:])
	answers[0], answers[1] = 9, 9
	_ = append(answers, 9)
	if fmt.Sprint(again) != "[0 0]" || !slices.Equal(all, []int{put(0, 1), drop(1), put(1, 1), 5}) {
		t.Errorf("%v; the script became %v", again, all)
	}
}
