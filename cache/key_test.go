package cache

import (
	"math/rand"
	"slices"
	"strings"
	"testing"

	"kilnfield/number"
)

// command: what a key is of.
type command struct {
	kind, word string
	inputs     []string
}

func (c command) key() string { return Key(c.kind, c.word, c.inputs) }

func (c command) is(d command) bool {
	return c.kind == d.kind && c.word == d.word && slices.Equal(c.inputs, d.inputs)
}

// read a key back, piece by piece.
func read(t *testing.T, key string) command {
	t.Helper()
	var pieces []string
	for rest := key; rest != ""; {
		digits, behind, _ := strings.Cut(rest, ":")
		n, ok := number.Read(digits, 9)
		if !ok || n > len(behind) {
			t.Fatalf("%.60q is no key at %.60q", key, rest)
		}
		pieces = append(pieces, behind[:n])
		rest = behind[n:]
	}
	if len(pieces) < 2 {
		t.Fatalf("%.60q has %d pieces", key, len(pieces))
	}
	return command{pieces[0], pieces[1], pieces[2:]}
}

// P60: how many bytes, `:`, the bytes, of kind, word and each input.
func TestKey(t *testing.T) {
	for _, c := range []struct {
		command
		want string
	}{
		{command{"join", "+", []string{"a", "bc"}}, "4:join1:+1:a2:bc"},
		{command{"write", "a b\n", nil}, "5:write4:a b\n"},
		{command{"upper", "", []string{"x"}}, "5:upper0:1:x"},
		{command{"upper", "", []string{""}}, "5:upper0:0:"},
		{command{"sort", "once", []string{"", "", "a\n"}}, "4:sort4:once0:0:2:a\n"},
		{command{"", "", nil}, "0:0:"},
		{command{"", "", []string{"0:", ":"}}, "0:0:2:0:1::"},
		{command{"no kind", "é", []string{"\xff\x00"}}, "7:no kind2:é2:\xff\x00"},
		{command{"upper", "", []string{strings.Repeat("x", 9)}}, "5:upper0:9:xxxxxxxxx"},
		{command{"upper", "", []string{strings.Repeat("x", 10)}}, "5:upper0:10:xxxxxxxxxx"},
		{command{"upper", "", []string{strings.Repeat("x", 2000)}}, "5:upper0:2000:" + strings.Repeat("x", 2000)},
		{command{strings.Repeat("k", 1<<20), "", nil}, "1048576:" + strings.Repeat("k", 1<<20) + "0:"},
		{command{"join", "", slices.Repeat([]string{"a"}, 1000)}, "4:join0:" + strings.Repeat("1:a", 1000)},
	} {
		if key := c.key(); key != c.want {
			t.Errorf("Key(%.60q) is %.60q, not %.60q", c.command, key, c.want)
		}
	}
}

// P62: of all commands of a few short pieces, made of what a key is made of, no two have one key.
func TestKeyOfFew(t *testing.T) {
	pieces := []string{"", "0", "1", ":", "0:", "1:", ":0", "0:0", "1:1", "0:0:", "1:1:", "0:1:", "2:0:", "a", "1:a"}
	seen := map[string]command{}
	hold := func(c command) {
		key := c.key()
		if other, is := seen[key]; is {
			t.Fatalf("%q and %q have the key %q", c, other, key)
		}
		seen[key] = c
	}
	for _, kind := range pieces {
		for _, word := range pieces {
			hold(command{kind, word, nil})
			for _, a := range pieces {
				hold(command{kind, word, []string{a}})
				for _, b := range pieces {
					hold(command{kind, word, []string{a, b}})
				}
			}
		}
	}
}

// P62: a command can be read back from its key, whatever its bytes are.
func TestKeyReadBack(t *testing.T) {
	r := rand.New(rand.NewSource(1))
	piece := func() string {
		b := make([]byte, r.Intn(1+r.Intn(120)))
		for i := range b {
			b[i] = "0123:a\n\xff"[r.Intn(8)]
		}
		return string(b)
	}
	for range 20000 {
		c := command{kind: piece(), word: piece()}
		for range r.Intn(10) {
			c.inputs = append(c.inputs, piece())
		}
		if got := read(t, c.key()); !got.is(c) {
			t.Fatalf("the key of %q is that of %q", c, got)
		}
	}
}

// P2, P3, P4: inputs are only read, and nothing behind them is; nil and no inputs are one thing.
func TestKeyOnlyReads(t *testing.T) {
	all := []string{"b", "a", "behind"}
	for range 2 {
		if key := Key("join", "", all[:2]); key != "4:join0:1:b1:a" {
			t.Errorf("it is %q", key)
		}
	}
	if !slices.Equal(all, []string{"b", "a", "behind"}) {
		t.Errorf("inputs became %q", all)
	}
	if a, b := Key("write", "w", nil), Key("write", "w", all[:0]); a != b {
		t.Errorf("%q and %q", a, b)
	}
}
