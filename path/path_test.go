package path

import (
	"slices"
	"strings"
	"testing"

	"kilnfield/api"
)

const letters = "abcdefghijklmnopqrstuvwxyz0123456789-._"

// texts calls f with each text of at most so many of the given bytes.
func texts(bytes string, most int, f func(s string)) {
	level := []string{""}
	for n := 0; ; n++ {
		var next []string
		for _, s := range level {
			f(s)
			for i := range len(bytes) {
				next = append(next, s+bytes[i:i+1])
			}
		}
		if n == most {
			return
		}
		level = next
	}
}

// odd texts are none that a caller should hand over.
func odd() []string {
	return []string{
		"", "/", "//", ".", "..", "./.", "*", "**", "***", " ", "a ", " a", "a\n", "a\x00", "\xff", "a/\xff/b", "é", "ａ", "\u0301",
		"a\\b", "A", "aB", "a+b", "a:b", "a,b", "`", "{", "@", "[", "a/", "/a", "a//b", "a/./b", "a/../b", "a/b/..",
		strings.Repeat("a", 1<<20), strings.Repeat("/", 1<<20), strings.Repeat("a/", 1<<20), strings.Repeat("../", 1<<20), strings.Repeat("*", 1<<20), strings.Repeat("**/", 1<<20),
	}
}

// P10: each letter that the chapter names may stand in a name, anywhere, and no other byte may.
func TestCheckLetters(t *testing.T) {
	for b := range 256 {
		one := string([]byte{byte(b)})
		well := strings.Contains(letters, one)
		for _, s := range []string{"x" + one, one + "x", "x" + one + "y", "x/" + one + "x/y"} {
			if one == "/" {
				continue
			}
			if err := Check(s); (err == nil) != well || !well && err != api.ErrName {
				t.Errorf("Check(%q) is %v", s, err)
			}
		}
	}
}

// P10: lengths, numbers of parts, and the names that are none.
func TestCheck(t *testing.T) {
	for _, c := range []struct {
		s    string
		well bool
	}{
		{"a", true},
		{"-", true},
		{"_", true},
		{"0", true},
		{"...", true},
		{".a", true},
		{"..a", true},
		{"a..", true},
		{"a.b/c-d/e_f", true},
		{"abcdefghijkl", true},
		{"abcdefghijklm", false},
		{"abcdefghijkl/abcdefghijkl", true},
		{"abcdefghijkl/abcdefghijklm", false},
		{"a/b/c/d/e", true},
		{"a/b/c/d/e/f", false},
		{"a/b/c/d/e/", false},
		{"", false},
		{".", false},
		{"..", false},
		{"a/.", false},
		{"./a", false},
		{"a/../b", false},
		{"/", false},
		{"/a", false},
		{"a/", false},
		{"a//b", false},
		{"a*", false},
		{"**", false},
		{"é", false},
		{"a b", false},
	} {
		if err := Check(c.s); (err == nil) != c.well || !c.well && err != api.ErrName {
			t.Errorf("Check(%q) is %v", c.s, err)
		}
	}
}

// P11: what Clean tells.
func TestClean(t *testing.T) {
	longest := strings.Repeat("a/../", 39) + "abcde"
	for _, c := range []struct {
		s, want string
		err     error
	}{
		{"a", "a", nil},
		{"a/b", "a/b", nil},
		{"a/./b/../c", "a/c", nil},
		{"/a", "a", nil},
		{"a/", "a", nil},
		{"//a///b//", "a/b", nil},
		{"./a/.", "a", nil},
		{"a/b/../../c", "c", nil},
		{"a/b//..", "a", nil},
		{"a/b/./..", "a", nil},
		{"a/.../..", "a", nil},
		{"...", "...", nil},
		{"a/..b", "a/..b", nil},
		{"A/../b", "b", nil},
		{"a b/../\xff/../c", "c", nil},
		{"a/b/c/d/e/f/..", "a/b/c/d/e", nil},
		{"x/../a/b/c/d/e", "a/b/c/d/e", nil},
		{"abcdefghijklm/../a", "a", nil},
		{longest, "abcde", nil},
		{longest + "f", "", api.ErrBound},
		{strings.Repeat("../", 67), "", api.ErrBound},
		{strings.Repeat("/", 201), "", api.ErrBound},
		{strings.Repeat("a", 201), "", api.ErrBound},
		{"..", "", api.ErrShape},
		{"/..", "", api.ErrShape},
		{"./..", "", api.ErrShape},
		{"../a", "", api.ErrShape},
		{"a/../..", "", api.ErrShape},
		{"a/../../b", "", api.ErrShape},
		{"../A", "", api.ErrShape},
		{"A/b*/../../..", "", api.ErrShape},
		{"", "", api.ErrNone},
		{".", "", api.ErrNone},
		{"/", "", api.ErrNone},
		{strings.Repeat("/", 200), "", api.ErrNone},
		{"a/..", "", api.ErrNone},
		{"A/..", "", api.ErrNone},
		{"A", "", api.ErrName},
		{"a/*", "", api.ErrName},
		{"a/b/c/d/e/f", "", api.ErrName},
		{"abcdefghijklm", "", api.ErrName},
		{strings.Repeat("a", 200), "", api.ErrName},
		{"a/\xff", "", api.ErrName},
	} {
		if s, err := Clean(c.s); s != c.want || err != c.err {
			t.Errorf("Clean(%q) is %q, %v", c.s, s, err)
		}
	}
}

// rewritten is what Clean should tell of a short text: one thing goes at a time, until nothing more goes.
func rewritten(s string) (string, error) {
	l := strings.Split(s, "/")
	l = slices.DeleteFunc(l, func(p string) bool { return p == "" || p == "." })
	for {
		i := slices.Index(l, "..")
		if i == 0 {
			return "", api.ErrShape
		}
		if i < 0 {
			break
		}
		l = slices.Delete(l, i-1, i+1)
	}
	if len(l) == 0 {
		return "", api.ErrNone
	}
	if s = strings.Join(l, "/"); Check(s) != nil {
		return "", api.ErrName
	}
	return s, nil
}

// P11: all short texts.
func TestCleanShort(t *testing.T) {
	texts("ab./A", 7, func(s string) {
		got, err := Clean(s)
		want, wrong := rewritten(s)
		if got != want || err != wrong {
			t.Errorf("Clean(%q) is %q, %v, not %q, %v", s, got, err, want, wrong)
		}
	})
}

// P11: Join is Clean of both with a separator between, also where its bounds are.
func TestJoin(t *testing.T) {
	for _, c := range []struct {
		a, b, want string
		err        error
	}{
		{"a", "b", "a/b", nil},
		{"a/b", "../c", "a/c", nil},
		{"a/", "/b", "a/b", nil},
		{"", "a", "a", nil},
		{"a", "", "a", nil},
		{"a", "..", "", api.ErrNone},
		{"a/b", "..", "a", nil},
		{"", "", "", api.ErrNone},
		{"..", "a", "", api.ErrShape},
		{"a", "../..", "", api.ErrShape},
		{"a", "B", "", api.ErrName},
		{"a/b/c", "d/e", "a/b/c/d/e", nil},
		{"a/b/c", "d/e/f", "", api.ErrName},
		{"a", strings.Repeat("/", 198), "a", nil},
		{"a", strings.Repeat("/", 199), "", api.ErrBound},
		{strings.Repeat("/", 199), "", "", api.ErrNone},
		{strings.Repeat("/", 200), "", "", api.ErrBound},
	} {
		if s, err := Join(c.a, c.b); s != c.want || err != c.err {
			t.Errorf("Join(%q, %q) is %q, %v", c.a, c.b, s, err)
		}
	}
}

// P11: Dir and Last, and both empty of what is no path.
func TestDirLast(t *testing.T) {
	for _, c := range []struct{ s, dir, last string }{
		{"a", "", "a"},
		{"a/b", "a", "b"},
		{"a/b/c/d/e", "a/b/c/d", "e"},
		{"a.b/...", "a.b", "..."},
		{"a/b/c/d/e/f", "", ""},
		{"abcdefghijklm", "", ""},
		{"A/b", "", ""},
		{"a/B", "", ""},
		{"a/*", "", ""},
	} {
		if dir, last := Dir(c.s), Last(c.s); dir != c.dir || last != c.last {
			t.Errorf("of %q: %q and %q", c.s, dir, last)
		}
	}
	for _, s := range odd() {
		if dir, last := Dir(s), Last(s); dir != "" || last != "" {
			t.Errorf("of %.20q: %q and %q", s, dir, last)
		}
	}
}

// P13: what is clean stays so: Clean answers paths, and a path is answered as it is.
func TestCleanStays(t *testing.T) {
	stays := func(s string) {
		clean, err := Clean(s)
		if err != nil {
			if Check(s) == nil {
				t.Errorf("the path %q is not clean: %v", s, err)
			}
			return
		}
		if err := Check(clean); err != nil {
			t.Errorf("Clean(%q) is %q: %v", s, clean, err)
		}
		if again, err := Clean(clean); again != clean || err != nil {
			t.Errorf("Clean(%q) is %q, %v", clean, again, err)
		}
		if Check(s) == nil && clean != s {
			t.Errorf("the path %q is cleaned to %q", s, clean)
		}
	}
	texts("a./_A", 7, stays)
	name := "a.-_9z..0.bc"
	for n := 1; n <= api.MaxParts; n++ {
		stays(strings.Repeat(name+"/", n-1) + name)
		stays(strings.Repeat(name+"//./x/../", n-1) + name)
	}
}

// P1 and P3: whatever is handed over, each call ends without a panic, and an error comes alone.
func TestOddTexts(t *testing.T) {
	for _, a := range odd() {
		if err := Check(a); err != api.ErrName {
			t.Errorf("Check(%.20q) is %v", a, err)
		}
		if s, err := Clean(a); err != nil && s != "" {
			t.Errorf("Clean(%.20q) is %q, %v", a, s, err)
		}
		for _, b := range odd() {
			if s, err := Join(a, b); err != nil && s != "" {
				t.Errorf("Join(%.20q, %.20q) is %q, %v", a, b, s, err)
			}
			if is, err := Match(a, b); is || err != api.ErrName {
				t.Errorf("Match(%.20q, %.20q) is %v, %v", a, b, is, err)
			}
		}
	}
}
