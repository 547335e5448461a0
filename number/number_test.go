package number

import (
	"strconv"
	"strings"
	"testing"
)

// P3: each number is read as it is written.
func TestReadWritten(t *testing.T) {
	for n := range 10000 {
		if got, ok := Read(strconv.Itoa(n), 4); got != n || !ok {
			t.Fatalf("Read(%d) is %d, %v", n, got, ok)
		}
	}
}

// P3: what nobody would write is none, and what has too many digits.
func TestReadWrong(t *testing.T) {
	for _, s := range []string{"", "-", "+", "-0", "-1", "+1", "00", "01", "007", " 1", "1 ", "1\n", "1.", "0x1", "1_0", "a", "1a", "é", "٣", "\xff", strings.Repeat("9", 100)} {
		if n, ok := Read(s, 200); n != 0 || ok {
			t.Errorf("Read(%q) is %d, %v", s, n, ok)
		}
	}
	for _, c := range []struct {
		s    string
		most int
		ok   bool
	}{{"999", 3, true}, {"1000", 3, false}, {"9999", 4, true}, {"10000", 4, false}, {"0", 1, true}, {"0", 0, false}, {"", 0, false}, {"1", -1, false}} {
		if n, ok := Read(c.s, c.most); ok != c.ok || !ok && n != 0 {
			t.Errorf("Read(%q, %d) is %d, %v", c.s, c.most, n, ok)
		}
	}
}
