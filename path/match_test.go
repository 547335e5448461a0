package path

import (
	"regexp"
	"strings"
	"testing"

	"kilnfield/api"
)

// P12: which paths fit.
func TestMatch(t *testing.T) {
	for _, c := range []struct {
		pattern, s string
		want       bool
	}{
		{"a", "a", true},
		{"a", "b", false},
		{"a", "a/a", false},
		{"a/a", "a", false},
		{"a/b", "a/b", true},
		{"a.b", "a.b", true},
		{"a.b", "axb", false},
		{"*", "a", true},
		{"*", "...", true},
		{"*", ".a", true},
		{"*", "a/b", false},
		{"*/*", "a/b", true},
		{"*/*", "a", false},
		{"a*", "a", true},
		{"*a", "a", true},
		{"*a", "ba", true},
		{"*a", "ab", false},
		{"a*", "ba", false},
		{"a*a", "a", false},
		{"a*a", "aa", true},
		{"ab*ba", "aba", false},
		{"*ab*ab*", "ab", false},
		{"*ab*ab*", "aab.abb", true},
		{"*aab", "aaab", true},
		{"*a*b", "abab", true},
		{"*a*b", "aba", false},
		{"a*/b*", "ax/by", true},
		{"a*/b*", "ax/cy", false},
		{"*.*", ".a", true},
		{"..*", "..a", true},
		{"..*", "...", true},
		{".*.", "...", true},
		{"a**", "a", true},
		{"a**", "abc", true},
		{"a**", "a/b", false},
		{"**a", "b/a", false},
		{"***", "abc", true},
		{"***", "a/b", false},
		{"************", "a", true},
		{"***********b", "aaaaaaaaaaaa", false},
		{"**", "a", true},
		{"**", "a/b/c/d/e", true},
		{"a/**", "a", true},
		{"a/**", "a/b/c", true},
		{"a/**", "b/a", false},
		{"**/a", "a", true},
		{"**/a", "b/c/a", true},
		{"**/a", "a/b", false},
		{"a/**/b", "a/b", true},
		{"a/**/b", "a/x/y/b", true},
		{"a/**/b", "a", false},
		{"a/**/b", "a/b/c", false},
		{"a/**/b/**/c", "a/x/b/c", true},
		{"a/**/b/**/c", "a/b/x/b/c", true},
		{"a/**/b/**/c", "a/c/b", false},
		{"**/*", "a", true},
		{"**/*/*", "a", false},
		{"**/**/**/**/**", "a", true},
		{"**/b/**", "a/b/c", true},
		{"**/b/**", "a/c/c", false},
		{"src/**/x*", "src/xy", true},
		{"src/**/x*", "src/a/b/x", true},
		{"src/**/x*", "src", false},
		{"abcdefghijk*", "abcdefghijkl", true},
	} {
		if is, err := Match(c.pattern, c.s); is != c.want || err != nil {
			t.Errorf("Match(%q, %q) is %v, %v", c.pattern, c.s, is, err)
		}
	}
}

// P12: what is no pattern, and what is no path: an error, also where the other one is well.
func TestMatchErrors(t *testing.T) {
	for _, pattern := range []string{
		"", ".", "..", "/", "a/", "/a", "a//b", "*/", "**/", "/**", "./*", "**/..", "a/../*", "A*", "a?", "[a]", "a b*", "*\xff", "*é",
		"abcdefghijkl*", "*************", "**/a/b/c/d/e", "*/*/*/*/*/*", "**/**/**/**/**/**",
	} {
		if is, err := Match(pattern, "a"); is || err != api.ErrName {
			t.Errorf("Match(%q, a) is %v, %v", pattern, is, err)
		}
		if err := CheckPattern(pattern); err != api.ErrName {
			t.Errorf("CheckPattern(%q) is %v", pattern, err)
		}
	}
	for _, s := range []string{"", ".", "..", "*", "a*", "**", "a/", "/a", "a//b", "a/../b", "A", "a/b/c/d/e/f", "abcdefghijklm"} {
		for _, pattern := range []string{"a", "*", "**", "**/*"} {
			if is, err := Match(pattern, s); is || err != api.ErrName {
				t.Errorf("Match(%q, %q) is %v, %v", pattern, s, is, err)
			}
		}
	}
}

// expression is a pattern as a regular expression, of a path with a separator behind each part.
func expression(pattern string) *regexp.Regexp {
	var b strings.Builder
	for _, part := range strings.Split(pattern, "/") {
		if part == "**" {
			b.WriteString(`(?:[^/]+/)*`)
			continue
		}
		b.WriteString(strings.ReplaceAll(regexp.QuoteMeta(part), `\*`, `[^/]*`) + "/")
	}
	return regexp.MustCompile("^" + b.String() + "$")
}

// P12: all short patterns against all short paths.
func TestMatchShort(t *testing.T) {
	var paths []string
	texts("ab/", 5, func(s string) {
		if Check(s) == nil {
			paths = append(paths, s)
		}
	})
	texts("ab*/", 6, func(pattern string) {
		if _, err := Match(pattern, "a"); err != nil {
			if Check(strings.ReplaceAll(pattern, "*", "x")) == nil {
				t.Errorf("the pattern %q: %v", pattern, err)
			}
			return
		}
		fits := expression(pattern)
		for _, s := range paths {
			if is, err := Match(pattern, s); is != fits.MatchString(s+"/") || err != nil {
				t.Errorf("Match(%q, %q) is %v, %v", pattern, s, is, err)
			}
		}
	})
}

// P12: a path is a pattern that it fits.
func TestMatchItself(t *testing.T) {
	texts("a.b/", 6, func(s string) {
		if Check(s) != nil {
			return
		}
		if is, err := Match(s, s); !is || err != nil {
			t.Errorf("Match(%q, itself) is %v, %v", s, is, err)
		}
	})
}
