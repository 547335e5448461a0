package rule

import (
	"fmt"
	"strings"
	"testing"

	"kilnfield/api"
)

// P41: sheets and their texts.
func TestText(t *testing.T) {
	for _, c := range []struct {
		l    []api.Rule
		want string
	}{
		{nil, ""},
		{[]api.Rule{}, ""},
		{[]api.Rule{of("a", "write", "")}, "a = write\n"},
		{[]api.Rule{of("a", "write", "w")}, "a = write \"w\"\n"},
		{[]api.Rule{of("a", "write", " ")}, "a = write \" \"\n"},
		{[]api.Rule{of("a", "write", " = ")}, "a = write \" = \"\n"},
		{[]api.Rule{of("a", "write", "\"")}, "a = write \"\\\"\"\n"},
		{[]api.Rule{of("a", "write", "\\")}, "a = write \"\\\\\"\n"},
		{[]api.Rule{of("a", "write", "\n")}, "a = write \"\\n\"\n"},
		{[]api.Rule{of("a", "write", "\\n")}, "a = write \"\\\\n\"\n"},
		{[]api.Rule{of("a", "write", "\\\n")}, "a = write \"\\\\\\n\"\n"},
		{[]api.Rule{of("a", "write", "\" b")}, "a = write \"\\\" b\"\n"},
		{[]api.Rule{of("a", "write", "\t\r\x00\xffé")}, "a = write \"\t\r\x00\xffé\"\n"},
		{[]api.Rule{of("a", "write", strings.Repeat("\n", 100))}, "a = write \"" + strings.Repeat("\\n", 100) + "\"\n"},
		{[]api.Rule{of("a", "upper", "", "b")}, "a = upper b\n"},
		{[]api.Rule{of("a/b", "join", "", "b/c", "a/a", "c")}, "a/b = join b/c a/a c\n"},
		{[]api.Rule{of("a", "join", "\"\\\n", "c", "b")}, "a = join \"\\\"\\\\\\n\" c b\n"},
		{[]api.Rule{of("a", "swap", "x=y", "b"), of("c", "head", "10", "a"), of("b", "write", "")}, "a = swap \"x=y\" b\nc = head \"10\" a\nb = write\n"},
	} {
		if s, err := Text(c.l); s != c.want || err != nil {
			t.Errorf("Text(%q) is %q, %v, not %q", c.l, s, err, c.want)
		}
		if l, err := Read(c.want); !same(l, c.l) || err != nil {
			t.Errorf("Read(%q) is %q, %v", c.want, l, err)
		}
	}
}

// P41, P3: Text tells Sheet's errors, and then no text.
func TestTextErrors(t *testing.T) {
	for _, c := range notWell() {
		if s, err := Text(append(manyRules(2), c.rule)); s != "" || !isFault(err, 2, c.want) {
			t.Errorf("Text with %.80q is %q, %v, not %v", c.rule, s, err, c.want)
		}
	}
}

// P41: lines that are not just so.
func TestReadNotJustSo(t *testing.T) {
	for _, line := range []string{
		"", " ", "=", "a", "a =", "a=", "a =write", "a= write", "a=write", "a\t=\twrite", "a = write ", "a = write  ", "a = upper  b", "a = upper b ", "a = join b  c",
		"= write", "a == write", "a =\" write\"",
		`a = write ""`, `a = upper "" b`, `a = write "`, `a = write "x`, `a = write "x\"`, `a = write "\`, `a = write "\x"`, `a = write "\N"`, `a = write "\t"`,
		`a = write "\ "`, `a = write "x"y`, `a = write "x""y"`, `a = write "x" `, `a = write "x"  b`, `a = write """`, `a = write "\\""`,
		`a = write "x"b`, "a = write \"x\"\r", "a = write \"x\"\t", "a = join \"x\" b ", "a = join \"x\"  b c", "a = join \"x\" b  c", "a = join \" ",
		"a = join \"x\nb\" b", "\na = write",
	} {
		for n := range 3 {
			ahead := strings.Repeat("A = what\n", n)
			for _, behind := range []string{"", "b = write\n", "\n", "x"} {
				if l, err := Read(ahead + line + "\n" + behind); len(l) > 0 || !isFault(err, n, api.ErrText) {
					t.Errorf("Read(%q) is %q, %v", ahead+line+"\n"+behind, l, err)
				}
			}
		}
	}
}

// P41: what is behind the last line break is a line, and not just so, if it is not empty.
func TestReadTail(t *testing.T) {
	for _, tail := range []string{"a", " ", "b = write", "b = upper a", `b = write "x"`, `b = write "\`, "\r", "\x00", "b = what", strings.Repeat("x", 9000)} {
		for n := range 3 {
			ahead := strings.Repeat("a = write\n", n)
			if l, err := Read(ahead + tail); len(l) > 0 || !isFault(err, n, api.ErrText) {
				t.Errorf("Read(%.60q) is %q, %v", ahead+tail, l, err)
			}
		}
	}
}

// P41: lines that are just so, and tell what is not well.
func TestReadSheet(t *testing.T) {
	for s, want := range map[string]error{
		" = write":                   api.ErrName,
		" = ":                        api.ErrName,
		" = = write":                 api.ErrName,
		"a b = write":                api.ErrName,
		" a = write":                 api.ErrName,
		"a  = write":                 api.ErrName,
		"A = what":                   api.ErrName,
		"\"a\" = write":              api.ErrName,
		"a\r = write":                api.ErrName,
		"a = ":                       api.ErrKind,
		"a =  write":                 api.ErrKind,
		"a =  \"x\"":                 api.ErrKind,
		"a = \"x\"":                  api.ErrKind,
		"a = \"":                     api.ErrKind,
		"a = what":                   api.ErrKind,
		"a = = write":                api.ErrKind,
		"a = b = c":                  api.ErrKind,
		"a = write\r":                api.ErrKind,
		"a = write\t\"x\"":           api.ErrKind,
		"a = write\"x\"":             api.ErrKind,
		"a = what b b":               api.ErrKind,
		"a = write b":                api.ErrShape,
		"a = write = b":              api.ErrShape,
		"a = write x\"":              api.ErrShape,
		"a = upper":                  api.ErrShape,
		"a = upper B B":              api.ErrShape,
		"a = upper b \"x\"":          api.ErrShape,
		"a = upper \"x\" b":          api.ErrShape,
		"a = head b":                 api.ErrShape,
		"a = swap \"x\" b":           api.ErrShape,
		"a = join i i i i i i i i":   api.ErrExist,
		"a = join i i i i i i i i i": api.ErrShape,
		"a = write \"" + strings.Repeat("x", 101) + "\"":   api.ErrLong,
		"a = write \"" + strings.Repeat("\\n", 101) + "\"": api.ErrLong,
		"a = upper B":            api.ErrName,
		"a = upper b\r":          api.ErrName,
		"a = join \"x\" \"y\"":   api.ErrName,
		"a = join \"x\" \"y z\"": api.ErrName,
		"a = join \"x\" = b":     api.ErrName,
		"a = join b \"x\"":       api.ErrName,
		"a = join b b C":         api.ErrName,
		"a = upper \\\"b":        api.ErrName,
		"a = upper a":            api.ErrExist,
		"a = join \"x\" b c b":   api.ErrExist,
		"o0 = write":             api.ErrExist,
		"o0 = upper o0":          api.ErrExist,
		"o1 = write \"x\"":       api.ErrExist,
	} {
		const ahead = "o0 = write\no1 = write \"\\n\"\n"
		for _, behind := range []string{"", "B = write\n", "o0 = write\n"} {
			if l, err := Read(ahead + s + "\n" + behind); len(l) > 0 || !isFault(err, 2, want) {
				t.Errorf("Read(%q) is %q, %v, not %v", ahead+s+"\n"+behind, l, err, want)
			}
		}
	}
}

// lines: a text with so many of them.
func lines(n int) string {
	var b strings.Builder
	for i := range n {
		fmt.Fprintf(&b, "o%d = write\n", i)
	}
	return b.String()
}

// P41, P3: of several errors the first that the chapter names: too many bytes, then a line that is not just so, then what Sheet says.
func TestReadFirstError(t *testing.T) {
	if l, err := Read(lines(api.MaxRules)); len(l) != api.MaxRules || err != nil {
		t.Errorf("%d rules, %v", len(l), err)
	}
	for _, s := range []string{lines(api.MaxRules + 1), strings.Repeat(" = \n", api.MaxText/4), "A = what\n" + lines(api.MaxRules)} {
		if l, err := Read(s); len(l) > 0 || err != api.ErrBound {
			t.Errorf("Read(%.60q) is %q, %v", s, l, err)
		}
	}
	for at, s := range map[int]string{
		1:                  "A = what\n\n",
		2:                  "a = write\na = write\nb",
		api.MaxRules + 1:   lines(api.MaxRules+1) + "x\n",
		api.MaxText/4 - 1:  strings.Repeat(" = \n", api.MaxText/4-1) + "a =\n",
		api.MaxRules*2 + 2: strings.Repeat("a = upper a\n", api.MaxRules*2+2) + "b = upper",
	} {
		if l, err := Read(s); len(l) > 0 || !isFault(err, at, api.ErrText) {
			t.Errorf("Read(%.60q) is %q, %v", s, l, err)
		}
	}
}

// P41: a text has at most MaxText bytes, whatever they are.
func TestReadBound(t *testing.T) {
	for _, s := range []string{"x", "\n", "a = write\n", "\"", "\\", " ", "\xff"} {
		most := strings.Repeat(s, api.MaxText)[:api.MaxText]
		if l, err := Read(most); len(l) > 0 || err == nil || err == api.ErrBound && s != "a = write\n" {
			t.Errorf("Read(%.40q) is %q, %v", most, l, err)
		}
		for _, more := range []string{most + "x", most + "\n", strings.Repeat(most, 100)} {
			if l, err := Read(more); len(l) > 0 || err != api.ErrBound {
				t.Errorf("Read(%.40q) of %d bytes is %q, %v", more, len(more), l, err)
			}
		}
	}
}

// wide: a sheet whose text has just so many bytes, about MaxText.
func wide(bytes int) []api.Rule {
	var inputs []string
	for i := range api.MaxInputs {
		inputs = append(inputs, fmt.Sprintf("abcdefghijk%d", i))
	}
	breaks := strings.Repeat("\n", 60)
	line := "o00 = join \"" + strings.Repeat("\\n", 60) + "\" " + strings.Join(inputs, " ") + "\n"
	left := bytes - api.MaxRules*len(line)
	var l []api.Rule
	for i := range api.MaxRules {
		few := min(left, 40)
		l = append(l, of(fmt.Sprintf("o%02d", i), "join", breaks+strings.Repeat("x", few), inputs...))
		left -= few
	}
	return l
}

// P41: a sheet's text may have more than MaxText bytes, since Text has only Sheet's errors; it is read up to just MaxText.
func TestTextBound(t *testing.T) {
	for _, bytes := range []int{api.MaxText - 1, api.MaxText} {
		l := wide(bytes)
		s, err := Text(l)
		if len(s) != bytes || err != nil {
			t.Fatalf("%d bytes, %v", len(s), err)
		}
		if back, err := Read(s); !same(back, l) || err != nil {
			t.Errorf("of %d bytes %d rules, %v", bytes, len(back), err)
		}
	}
	s, err := Text(wide(api.MaxText + 1))
	if len(s) != api.MaxText+1 || err != nil {
		t.Fatalf("%d bytes, %v", len(s), err)
	}
	if back, err := Read(s); len(back) > 0 || err != api.ErrBound {
		t.Errorf("%d rules, %v", len(back), err)
	}
}

// P42: words of all bytes, and of all short rows of those that are written otherwise.
func TestReadAsWritten(t *testing.T) {
	var words []string
	for c := range 256 {
		words = append(words, string([]byte{byte(c)}), string([]byte{'\\', byte(c)}), string([]byte{byte(c), '"'}), string([]byte{byte(c), '\n', byte(c)}))
	}
	const letters = "\"\\\nn =a"
	var rows func(s string)
	rows = func(s string) {
		words = append(words, s)
		for i := range len(letters) {
			if len(s) < 4 {
				rows(s + letters[i:i+1])
			}
		}
	}
	rows("")
	for _, w := range words {
		l := []api.Rule{of("a", "write", w), of("b", "join", w, "a", "c"), of("c", "lines", w, "d")}
		s, err := Text(l)
		if err != nil {
			t.Fatalf("Text with %q is %v", w, err)
		}
		if back, err := Read(s); !same(back, l) || err != nil {
			t.Fatalf("Read(%q) is %q, %v", s, back, err)
		}
		if strings.Count(s, "\n") != len(l) {
			t.Errorf("%q has not %d lines", s, len(l))
		}
	}
	for _, r := range well() {
		l := []api.Rule{r, of("z", "write", "")}
		s, err := Text(l)
		if back, fails := Read(s); !same(back, l) || err != nil || fails != nil {
			t.Errorf("Read(%q) is %q, %v, %v", s, back, err, fails)
		}
	}
}

// P41, P42: of all short lines, just those are read that Text makes, and each tells just its rule.
func TestReadShort(t *testing.T) {
	const letters = "\"\\\nnb "
	read := 0
	var try func(s string)
	try = func(s string) {
		for _, head := range []string{"a = write", "a = lines"} {
			l, err := Read(head + s)
			switch {
			case err == nil:
				read++
				if back, fails := Text(l); back != head+s || fails != nil {
					t.Errorf("Read(%q) has the text %q, %v", head+s, back, fails)
				}
			case len(l) > 0:
				t.Errorf("Read(%q) is %q, %v", head+s, l, err)
			}
			if again, fails := Read(head + s); !same(again, l) || fmt.Sprint(fails) != fmt.Sprint(err) {
				t.Errorf("Read(%q) is not the same again", head+s)
			}
		}
		if len(s) < 7 {
			for i := range len(letters) {
				try(s + letters[i:i+1])
			}
		}
	}
	try("")
	// Of write: no word; words within quotes in one to three bytes, with n, b, a blank or one of three that two bytes tell.
	one, two, three := 3, 3*3+3, 3*3*3+2*3*3
	// Of lines: names of n and b in up to five letters; or a word in one byte with a name of one letter, and so on.
	bare, worded := 2+4+8+16+32, one*2
	if want := 1 + one + two + three + bare + worded; read != want {
		t.Errorf("%d lines were read, not %d", read, want)
	}
}

// P4: no two lists of an answer share memory, and what is written into one shows nowhere.
func TestReadNewMemory(t *testing.T) {
	const s = "a = join b c\nb = join c d\nc = upper e\n"
	first, err := Read(s)
	second, fails := Read(s)
	if err != nil || fails != nil {
		t.Fatal(err, fails)
	}
	for i := range first {
		first[i].Inputs = append(first[i].Inputs, "x", "y", "z")
		first[i].Inputs[0] = "w"
	}
	first[0].Out = "v"
	want := []api.Rule{of("v", "join", "", "w", "c", "x", "y", "z"), of("b", "join", "", "w", "d", "x", "y", "z"), of("c", "upper", "", "w", "x", "y", "z")}
	if !same(first, want) {
		t.Errorf("lists share memory: %q", first)
	}
	if back, err := Text(second); back != s || err != nil {
		t.Errorf("the second answer is %q, %v", back, err)
	}
}
