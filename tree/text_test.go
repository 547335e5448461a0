package tree

import (
	"fmt"
	"strconv"
	"strings"
	"testing"

	"kilnfield/api"
)

// P21: a tree's text, and the tree that is read of it.
func TestText(t *testing.T) {
	for _, c := range []struct {
		x    *Tree
		want string
	}{
		{New(), ""},
		{made(t, "a", ""), "a 0\n\n"},
		{made(t, "b/c", "z", "bc", "x", "a", "1\n2"), "a 3\n1\n2\nb/c 1\nz\nbc 1\nx\n"},
		{made(t, "a", "\n"), "a 1\n\n\n"},
		{made(t, "a", "b 1\nx\n", "b", "é"), "a 6\nb 1\nx\n\nb 2\né\n"},
		{made(t, "a", "\xff\x00"), "a 2\n\xff\x00\n"},
		{made(t, "a/0", "", "a-", "", "a0", ""), "a- 0\n\na/0 0\n\na0 0\n\n"},
		{made(t, "a", strings.Repeat("x", api.MaxBytes)), "a 2000\n" + strings.Repeat("x", api.MaxBytes) + "\n"},
	} {
		if s := c.x.Text(); s != c.want {
			t.Errorf("the text is %q, not %q", s, c.want)
		}
		y, err := Read(c.want)
		if err != nil {
			t.Errorf("Read(%q) is %v", c.want, err)
			continue
		}
		if s := y.Text(); s != c.want {
			t.Errorf("read, the text is %q, not %q", s, c.want)
		}
		for _, p := range c.x.Paths() {
			want, _ := c.x.Get(p)
			if s, is := y.Get(p); s != want || !is {
				t.Errorf("read, %s is %q, %v", p, s, is)
			}
		}
	}
}

// P21: Read's errors one by one.
func TestReadErrors(t *testing.T) {
	long := strings.Repeat("x", api.MaxBytes+1)
	for s, want := range map[string]error{
		"\n":                             api.ErrText,
		" ":                              api.ErrText,
		"a":                              api.ErrText,
		"a\n":                            api.ErrText,
		"a ":                             api.ErrText,
		"a \n":                           api.ErrText,
		"a \n\n":                         api.ErrText,
		"a 0":                            api.ErrText,
		"a 0\n":                          api.ErrText,
		"a 0\nx":                         api.ErrText,
		"a 0\nx\n":                       api.ErrText,
		"a 0\n\n\n":                      api.ErrText,
		"a 0\n\nb":                       api.ErrText,
		"a 1\n\n":                        api.ErrText,
		"a 1\nx":                         api.ErrText,
		"a 1\nxy\n":                      api.ErrText,
		"a 2\nx\n":                       api.ErrText,
		"a 9999\nx\n":                    api.ErrText,
		"a 99999999999999999999\nx\n":    api.ErrText,
		"a 00\n\n":                       api.ErrText,
		"a 01\nx\n":                      api.ErrText,
		"a +1\nx\n":                      api.ErrText,
		"a -1\nx\n":                      api.ErrText,
		"a -0\n\n":                       api.ErrText,
		"a 1 \nx\n":                      api.ErrText,
		"a  1\nx\n":                      api.ErrText,
		"a b 1\nx\n":                     api.ErrText,
		"a 0x1\nx\n":                     api.ErrText,
		"a 1_0\n0123456789\n":            api.ErrText,
		"a ١\nx\n":                       api.ErrText,
		"a\t1\nx\n":                      api.ErrText,
		"a 1\r\nx\r\n":                   api.ErrText,
		"a\nb 1\nx\n":                    api.ErrText,
		"\na 1\nx\n":                     api.ErrText,
		"a 10000\n" + long[:1] + "\n":    api.ErrText,
		"a 02000\n" + long[:2000] + "\n": api.ErrText,
		" 1\nx\n":                        api.ErrName,
		"A 1\nx\n":                       api.ErrName,
		"a/ 1\nx\n":                      api.ErrName,
		"./a 1\nx\n":                     api.ErrName,
		"* 1\nx\n":                       api.ErrName,
		"\t 1\nx\n":                      api.ErrName,
		"a 10000\n" + strings.Repeat("x", 10000) + "\n": api.ErrText,
		"a 9999\n" + strings.Repeat("x", 9999) + "\n":   api.ErrBound,
		"a 2001\n" + long + "\n":                        api.ErrBound,
		"a 0\n\na/b 0\n\n":                              api.ErrExist,
		"a/b 0\n\na 0\n\n":                              api.ErrExist,
		"b 0\n\na 0\n\n":                                api.ErrShape,
		"a 0\n\na 0\n\n":                                api.ErrShape,
		"a/b 0\n\na-b 0\n\n":                            api.ErrShape,
		"a 0\n\nc 0\n\nb 0\n\n":                         api.ErrShape,
		strings.Repeat("\n", 1<<20):                     api.ErrText,
		strings.Repeat(" ", 1<<20):                      api.ErrText,
		strings.Repeat("a 0\n\n", 1<<16):                api.ErrShape,
		"a 1\n" + strings.Repeat("x", 1<<20):            api.ErrText,
	} {
		if y, err := Read(s); y != nil || err != want {
			t.Errorf("Read(%.40q) is %v, %v, not %v", s, y, err, want)
		}
	}
}

// P21, P3: of several errors the first that the chapter names: a text that is not just so anywhere, then what Put says of the first file that it does not take, then the order.
func TestReadFirstError(t *testing.T) {
	long := "l 2001\n" + strings.Repeat("x", api.MaxBytes+1) + "\n"
	for s, want := range map[string]error{
		"A 0\n\nb 0\n":                        api.ErrText,
		"b 0\n\na 0\n\nc":                     api.ErrText,
		long + "m 00\n\n":                     api.ErrText,
		"a 0\n\na/b 0\n\nc 1":                 api.ErrText,
		"b 0\n\na 0\n\nA 0\n\n":               api.ErrName,
		"b 0\n\na 0\n\n" + long:               api.ErrBound,
		"b 0\n\nb 0\n\nb/c 0\n\n":             api.ErrExist,
		"B 2001\n" + long[len("l 2001\n"):]:   api.ErrName,
		"A 0\n\n" + long:                      api.ErrName,
		long + "A 0\n\n":                      api.ErrBound,
		"b 0\n\na 0\n\n" + many(api.MaxFiles): api.ErrFull,
	} {
		if y, err := Read(s); y != nil || err != want {
			t.Errorf("Read(%.40q) is %v, %v, not %v", s, y, err, want)
		}
	}
}

// many files as a text: f10000, f10001 ..
func many(n int) string {
	var b strings.Builder
	for i := range n {
		fmt.Fprintf(&b, "f%d 1\nx\n", 10000+i)
	}
	return b.String()
}

// P21: as many files as a tree may have, and one more.
func TestReadFull(t *testing.T) {
	if y, err := Read(many(api.MaxFiles)); err != nil || y.Text() != many(api.MaxFiles) {
		t.Error(err)
	}
	if y, err := Read(many(api.MaxFiles + 1)); y != nil || err != api.ErrFull {
		t.Error(y, err)
	}
}

// P21: a tree that was read is like one that was put together.
func TestReadOn(t *testing.T) {
	y, err := Read("a/b 1\nx\n")
	if err != nil {
		t.Fatal(err)
	}
	if err := y.Put("a", ""); err != api.ErrExist {
		t.Error(err)
	}
	if err := y.Put("a/c", "y"); err != nil || y.Text() != "a/b 1\nx\na/c 1\ny\n" {
		t.Error(err)
	}
	if err := y.Remove("a/b"); err != nil || y.Text() != "a/c 1\ny\n" {
		t.Error(err)
	}
}

// P22: in whatever order files come, and whatever was there in between, a tree has one text.
func TestOneText(t *testing.T) {
	files := []string{"a-", "a/b", "a/c", "b", "aa"}
	want := "a- 1\n0\na/b 1\n1\na/c 1\n2\naa 1\n4\nb 1\n3\n"
	orders := 0
	var try func(order []int)
	try = func(order []int) {
		if len(order) == len(files) {
			orders++
			x := made(t, "zz", "", "b", "other")
			for _, i := range order {
				if err := x.Put(files[i], strconv.Itoa(i)); err != nil {
					t.Fatal(err)
				}
			}
			if err := x.Remove("zz"); err != nil || x.Text() != want || x.Text() != want {
				t.Errorf("order %v: %q", order, x.Text())
			}
			return
		}
		for i := range files {
			if !strings.Contains(fmt.Sprint(order), strconv.Itoa(i)) {
				try(append(order[:len(order):len(order)], i))
			}
		}
	}
	try(nil)
	if orders != 120 {
		t.Error(orders)
	}
}

// P21, P22: of all short texts, just those are read that a tree has, and each tells just its tree.
func TestReadShort(t *testing.T) {
	const letters = "ab 01\n"
	read := 0
	var try func(s string)
	try = func(s string) {
		y, err := Read(s)
		switch {
		case err == nil:
			read++
			if y.Text() != s {
				t.Errorf("Read(%q) has the text %q", s, y.Text())
			}
		case y != nil:
			t.Errorf("Read(%q) is %v, %v", s, y, err)
		case err != api.ErrText && err != api.ErrName && err != api.ErrShape:
			t.Errorf("Read(%q) is %v", s, err)
		}
		if len(s) < 7 {
			for i := range len(letters) {
				try(s + letters[i:i+1])
			}
		}
	}
	try("")
	// Nothing; names of one to three letters (of a, b, 0, 1) without bytes; names of one or two with one of six bytes.
	if want := 1 + 4 + 16 + 64 + 6*(4+16); read != want {
		t.Errorf("%d texts were read, not %d", read, want)
	}
}
