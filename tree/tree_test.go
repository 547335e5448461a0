package tree

import (
	"fmt"
	"maps"
	"math/rand"
	"slices"
	"strings"
	"testing"

	"kilnfield/api"
	"kilnfield/path"
)

// made is a tree of these files, put one behind the other.
func made(t *testing.T, files ...string) *Tree {
	t.Helper()
	x := New()
	for i := 0; i+1 < len(files); i += 2 {
		if err := x.Put(files[i], files[i+1]); err != nil {
			t.Fatalf("Put(%q, %q) is %v", files[i], files[i+1], err)
		}
	}
	return x
}

// filled is a tree with as many files as one may have: f0, f1 ..
func filled(t *testing.T) *Tree {
	t.Helper()
	x := New()
	for i := range api.MaxFiles {
		if err := x.Put(fmt.Sprint("f", i), fmt.Sprint(i)); err != nil {
			t.Fatalf("file %d: %v", i, err)
		}
	}
	return x
}

// P20: what was put is got, the last bytes of each file, and nothing else.
func TestPutGet(t *testing.T) {
	x := made(t, "a/b", "1", "c", "", "a/b", "2\x00\xff\n", "a.b", strings.Repeat("x", api.MaxBytes), "a/c/d/e/f", "3")
	for p, want := range map[string]string{"a/b": "2\x00\xff\n", "c": "", "a.b": strings.Repeat("x", api.MaxBytes), "a/c/d/e/f": "3"} {
		if s, is := x.Get(p); s != want || !is {
			t.Errorf("Get(%q) is %q, %v", p, s, is)
		}
	}
	for _, p := range []string{"", "a", "a/", "/c", "./c", "a/b/c", "a/c", "A", "b", "c/.", "\xff", strings.Repeat("a", 1<<20)} {
		if s, is := x.Get(p); s != "" || is {
			t.Errorf("Get(%q) is %q, %v", p, s, is)
		}
	}
}

// P20: Put's errors, the first that is so, and the tree as it was.
func TestPutErrors(t *testing.T) {
	long := strings.Repeat("x", api.MaxBytes+1)
	few := made(t, "a/b/c", "1", "d", "2")
	for _, c := range []struct {
		x        *Tree
		p, bytes string
		want     error
	}{
		{few, "", "", api.ErrName},
		{few, "D", "", api.ErrName},
		{few, "a/b/", "", api.ErrName},
		{few, "d/.", "", api.ErrName},
		{few, "d/../e", "", api.ErrName},
		{few, "*", "", api.ErrName},
		{few, "a/b/c/d/e/f", "", api.ErrName},
		{few, "", long, api.ErrName},
		{few, "e", long, api.ErrBound},
		{few, "d", long, api.ErrBound},
		{few, "a", long, api.ErrBound},
		{few, "d/e", long, api.ErrBound},
		{few, "a", "", api.ErrExist},
		{few, "a/b", "", api.ErrExist},
		{few, "a/b/c/d", "", api.ErrExist},
		{few, "a/b/c/d/e", "", api.ErrExist},
		{few, "d/e", "", api.ErrExist},
		{filled(t), "", "", api.ErrName},
		{filled(t), "g", long, api.ErrBound},
		{filled(t), "f7/g", "", api.ErrExist},
		{filled(t), "g", "", api.ErrFull},
		{filled(t), "g/h", "", api.ErrFull},
	} {
		ahead := c.x.Text()
		if err := c.x.Put(c.p, c.bytes); err != c.want {
			t.Errorf("Put(%q, %d bytes) is %v, not %v", c.p, len(c.bytes), err, c.want)
		}
		if c.x.Text() != ahead {
			t.Errorf("Put(%q, %d bytes) has changed the tree", c.p, len(c.bytes))
		}
	}
}

// P20: paths that only begin alike, or lie in one folder, are not above one another.
func TestPutBeside(t *testing.T) {
	made(t, "a", "", "a.b", "", "ab", "", "a-", "", "b/c", "", "b/d", "", "b/cc", "", "c/a", "", "c/b/a", "", "b.c", "")
}

// P20: a full tree takes a file that it has, and another one when one has gone.
func TestPutFull(t *testing.T) {
	x := filled(t)
	if err := x.Put("f7", "new"); err != nil {
		t.Error(err)
	}
	if s, _ := x.Get("f7"); s != "new" {
		t.Errorf("f7 is %q", s)
	}
	if err := x.Remove("f0"); err != nil {
		t.Error(err)
	}
	if err := x.Put("g", ""); err != nil {
		t.Error(err)
	}
	if err := x.Put("h", ""); err != api.ErrFull {
		t.Error(err)
	}
}

// P20: what was removed is gone, and no longer in the way of others.
func TestRemove(t *testing.T) {
	x := made(t, "a/b", "1", "c", "2")
	for _, p := range []string{"", "a", "a/b/c", "A", "d", "./c", "a/", "*", "**"} {
		if err := x.Remove(p); err != api.ErrNone {
			t.Errorf("Remove(%q) is %v", p, err)
		}
	}
	if s := x.Text(); s != "a/b 1\n1\nc 1\n2\n" {
		t.Errorf("it is %q", s)
	}
	if err := x.Remove("a/b"); err != nil {
		t.Error(err)
	}
	if s, is := x.Get("a/b"); s != "" || is {
		t.Errorf("it is %q, %v", s, is)
	}
	if err := x.Remove("a/b"); err != api.ErrNone {
		t.Error(err)
	}
	if err := x.Put("a", "3"); err != nil {
		t.Error(err)
	}
	if s := x.Text(); s != "a 1\n3\nc 1\n2\n" {
		t.Errorf("it is %q", s)
	}
}

// P20: paths rise byte by byte (so `-` and `.` stand ahead of `/`, digits behind it, `_` ahead of letters).
func TestPaths(t *testing.T) {
	x := made(t, "b", "", "a/b", "", "a0", "", "a.b", "", "a-b", "", "ab", "", "a_b", "", "10", "", "9", "", "a-b", "x")
	if l := x.Paths(); !slices.Equal(l, []string{"10", "9", "a-b", "a.b", "a/b", "a0", "a_b", "ab", "b"}) {
		t.Error(l)
	}
	if l := New().Paths(); len(l) > 0 {
		t.Error(l)
	}
}

// P20, P4: a list of paths is the caller's own.
func TestPathsNew(t *testing.T) {
	x := made(t, "a", "1", "b", "2")
	l := x.Paths()
	l[0], l[1] = "b", "z"
	g, _ := x.Glob("*")
	g[0] = "z"
	if l := x.Paths(); !slices.Equal(l, []string{"a", "b"}) {
		t.Error(l)
	}
	if l, _ := x.Glob("*"); !slices.Equal(l, []string{"a", "b"}) {
		t.Error(l)
	}
}

// P20: a pattern's paths, rising; none that fits is no error.
func TestGlob(t *testing.T) {
	x := made(t, "src/x/y", "", "src/x.go", "", "b/c", "", "bc", "", "a", "", "src/a/b/x", "")
	for _, c := range []struct {
		pattern string
		want    []string
	}{
		{"*", []string{"a", "bc"}},
		{"b*", []string{"bc"}},
		{"**", []string{"a", "b/c", "bc", "src/a/b/x", "src/x.go", "src/x/y"}},
		{"**/*c", []string{"b/c", "bc"}},
		{"src/**/x*", []string{"src/a/b/x", "src/x.go"}},
		{"src/**", []string{"src/a/b/x", "src/x.go", "src/x/y"}},
		{"*/*", []string{"b/c", "src/x.go"}},
		{"a", []string{"a"}},
		{"src", nil},
		{"a/*", nil},
		{"z*", nil},
	} {
		if l, err := x.Glob(c.pattern); !slices.Equal(l, c.want) || err != nil {
			t.Errorf("Glob(%q) is %q, %v", c.pattern, l, err)
		}
	}
}

// P20: what is no pattern is told, also where there is no file that could fit.
func TestGlobErrors(t *testing.T) {
	for _, x := range []*Tree{New(), made(t, "a", "")} {
		for _, pattern := range []string{"", "/", ".", "..", "a/", "/a", "a//b", "*/", "A", "?", "**/..", "*************", "**/**/**/**/**/**", "\xff"} {
			if l, err := x.Glob(pattern); len(l) > 0 || err != api.ErrName {
				t.Errorf("Glob(%q) is %q, %v", pattern, l, err)
			}
		}
	}
	if l, err := New().Glob("**"); len(l) > 0 || err != nil {
		t.Error(l, err)
	}
}

// model: a tree as a bare map, with the document's rules told once more.
type model map[string]string

func (m model) put(p, bytes string) error {
	if path.Check(p) != nil {
		return api.ErrName
	}
	if len(bytes) > api.MaxBytes {
		return api.ErrBound
	}
	many := 0
	for q := range m {
		for d := path.Dir(p); d != ""; d = path.Dir(d) {
			if d == q {
				return api.ErrExist
			}
		}
		for d := path.Dir(q); d != ""; d = path.Dir(d) {
			if d == p {
				return api.ErrExist
			}
		}
		if q != p {
			many++
		}
	}
	if many >= api.MaxFiles {
		return api.ErrFull
	}
	m[p] = bytes
	return nil
}

// P20, P22: long rows of calls, held against a bare map.
func TestModel(t *testing.T) {
	r := rand.New(rand.NewSource(1))
	for range 200 {
		x, m := New(), model{}
		for range 150 {
			names := make([]string, 1+r.Intn(3))
			for i := range names {
				names[i] = string(rune('a'+r.Intn(6))) + strings.Repeat("x", r.Intn(3))
			}
			p := strings.Join(names, "/")
			if r.Intn(4) > 0 {
				bytes := strings.Repeat("\n", r.Intn(3))
				if got, want := x.Put(p, bytes), m.put(p, bytes); got != want {
					t.Fatalf("Put(%q) is %v, not %v", p, got, want)
				}
			} else {
				_, is := m[p]
				delete(m, p)
				if err := x.Remove(p); (err == nil) != is {
					t.Fatalf("Remove(%q) is %v", p, err)
				}
			}
		}
		if l := x.Paths(); !slices.Equal(l, slices.Sorted(maps.Keys(m))) {
			t.Fatalf("paths %q, not %q", l, m)
		}
		for p, want := range m {
			if s, is := x.Get(p); s != want || !is {
				t.Fatalf("Get(%q) is %q, %v", p, s, is)
			}
		}
	}
}

// P1: nil, as Read answers it with an error, can be asked, and a Tree that nobody made, too.
func TestNoTree(t *testing.T) {
	none, err := Read("no tree")
	if none != nil || err == nil {
		t.Fatal(none, err)
	}
	if err := none.Put("a", ""); err != api.ErrShape {
		t.Error(err)
	}
	for _, x := range []*Tree{none, {}} {
		if s, is := x.Get("a"); s != "" || is {
			t.Error(s, is)
		}
		if err := x.Remove("a"); err != api.ErrNone {
			t.Error(err)
		}
		if l := x.Paths(); len(l) > 0 {
			t.Error(l)
		}
		if l, err := x.Glob("*"); len(l) > 0 || err != nil {
			t.Error(l, err)
		}
		if s := x.Text(); s != "" {
			t.Error(s)
		}
	}
	var zero Tree
	if err := zero.Put("a", "x"); err != nil || zero.Text() != "a 1\nx\n" {
		t.Error(err)
	}
}
