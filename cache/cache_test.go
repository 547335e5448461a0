package cache

import (
	"fmt"
	"math"
	"math/rand"
	"slices"
	"strings"
	"testing"

	"kilnfield/api"
)

// room: a new cache.
func room(t *testing.T, many int) *Cache {
	t.Helper()
	c, err := New(many)
	if c == nil || err != nil {
		t.Fatalf("New(%d) is %v, %v", many, c, err)
	}
	return c
}

// hold a cache's keys against those that it should have.
func hold(t *testing.T, c *Cache, want ...string) {
	t.Helper()
	if keys := c.Keys(); !slices.Equal(keys, want) || c.Len() != len(want) {
		t.Fatalf("%d keys: %.60q, not %.60q", c.Len(), keys, want)
	}
}

// has: a cache has these bytes at a key.
func has(t *testing.T, c *Cache, key, want string) {
	t.Helper()
	if s, is := c.Get(key); s != want || !is {
		t.Fatalf("Get(%.60q) is %.60q, %v, not %.60q", key, s, is, want)
	}
}

// hasNot: a cache has nothing at these keys.
func hasNot(t *testing.T, c *Cache, keys ...string) {
	t.Helper()
	for _, key := range keys {
		if s, is := c.Get(key); s != "" || is {
			t.Fatalf("Get(%.60q) is %.60q, %v", key, s, is)
		}
	}
}

// P61: room from 1 to MaxEntries, else the error alone, without a place.
func TestNew(t *testing.T) {
	for _, many := range []int{math.MinInt, -100, -1, 0, 101, 1000, math.MaxInt32, math.MaxInt} {
		if c, err := New(many); c != nil || err != api.ErrBound {
			t.Errorf("New(%d) is %v, %v", many, c, err)
		}
	}
	for many := 1; many <= api.MaxEntries; many++ {
		c := room(t, many)
		hold(t, c)
		hasNot(t, c, "", "a")
	}
}

// P61: each cache has just the room that it was made with, and then the first one goes.
func TestRoom(t *testing.T) {
	for many := 1; many <= api.MaxEntries; many++ {
		c := room(t, many)
		var want []string
		for i := range 2*many + 1 {
			key := fmt.Sprint("k", i)
			c.Put(key, fmt.Sprint(i))
			want = append(want, key)
			if len(want) > many {
				hasNot(t, c, want[0])
				want = want[1:]
			}
			hold(t, c, want...)
		}
		for _, key := range slices.Clone(want) {
			has(t, c, key, key[1:])
		}
		hold(t, c, want...)
	}
}

// P61: what is asked for is the last one then; what is not there changes nothing.
func TestGet(t *testing.T) {
	c := room(t, 3)
	c.Put("a", "1")
	c.Put("b", "2")
	c.Put("c", "3")
	for _, s := range []struct{ key, bytes, keys string }{
		{"a", "1", "b c a"}, {"a", "1", "b c a"}, {"c", "3", "b a c"}, {"b", "2", "a c b"}, {"c", "3", "a b c"},
	} {
		has(t, c, s.key, s.bytes)
		hold(t, c, strings.Fields(s.keys)...)
	}
	hasNot(t, c, "", "d", "A", "a ", "ab", "\xff", strings.Repeat("a", 1<<20))
	hold(t, c, "a", "b", "c")
	has(t, c, "a", "1")
	c.Put("d", "4")
	hold(t, c, "c", "a", "d")
	hasNot(t, c, "b")
}

// P61: a key that is there has the new bytes, is the last one, and nothing goes for it.
func TestPutAgain(t *testing.T) {
	c := room(t, 2)
	c.Put("a", "1")
	c.Put("a", "2")
	hold(t, c, "a")
	c.Put("b", "3")
	hold(t, c, "a", "b")
	c.Put("a", "4")
	hold(t, c, "b", "a")
	has(t, c, "b", "3")
	has(t, c, "a", "4")
	c.Put("a", "")
	has(t, c, "a", "")
	c.Put("c", "5")
	hold(t, c, "a", "c")
	one := room(t, 1)
	for i := range 5 {
		one.Put("x", fmt.Sprint(i))
		has(t, one, "x", fmt.Sprint(i))
		hold(t, one, "x")
	}
}

// P61: what has gone may come again.
func TestPutBack(t *testing.T) {
	c := room(t, 1)
	for range 3 {
		for _, key := range []string{"a", "b"} {
			hasNot(t, c, key)
			c.Put(key, key+key)
			has(t, c, key, key+key)
			hold(t, c, key)
		}
	}
}

// P1, P61: any text is a key, and any bytes lie there.
func TestAnyText(t *testing.T) {
	texts := []string{"", " ", "\n", "\x00", "\xff", "é", "e\u0301", "0:", "a", "A", strings.Repeat("k", 1<<20), strings.Repeat("k", 1<<20+1)}
	c := room(t, len(texts))
	for i, key := range texts {
		c.Put(key, texts[len(texts)-1-i])
	}
	hold(t, c, texts...)
	for i, key := range texts {
		has(t, c, key, texts[len(texts)-1-i])
	}
	hold(t, c, texts...)
}

// P4: a list of keys is the caller's own, and stays as it was.
func TestKeysNew(t *testing.T) {
	c := room(t, 3)
	c.Put("a", "1")
	c.Put("b", "2")
	first, second := c.Keys(), c.Keys()
	first[0], first[1] = "z", "a"
	_ = append(first, "y")
	hold(t, c, "a", "b")
	c.Put("c", "3")
	c.Put("d", "4")
	has(t, c, "b", "2")
	hold(t, c, "c", "d", "b")
	if !slices.Equal(second, []string{"a", "b"}) {
		t.Errorf("a list that was answered became %q", second)
	}
}

// P2: one cache knows nothing of another one.
func TestTwo(t *testing.T) {
	a, b := room(t, 2), room(t, 2)
	a.Put("x", "1")
	hasNot(t, b, "x")
	b.Put("x", "2")
	b.Put("y", "3")
	has(t, a, "x", "1")
	hold(t, a, "x")
	hold(t, b, "x", "y")
}

// P1: nil, as New answers it with an error, can be asked, and a Cache that nobody made, too: neither keeps anything.
func TestNoCache(t *testing.T) {
	none, _ := New(0)
	for _, c := range []*Cache{none, {}} {
		for range 2 {
			hasNot(t, c, "", "a")
			hold(t, c)
			c.Put("a", "1")
			c.Put("", "")
		}
	}
}

// model: a cache by a clock: each entry has the time at which it was last asked for.
type model struct {
	room, now int
	bytes     map[string]string
	last      map[string]int
}

func (m *model) get(key string) (string, bool) {
	s, is := m.bytes[key]
	if is {
		m.now++
		m.last[key] = m.now
	}
	return s, is
}

func (m *model) put(key, bytes string) {
	m.now++
	m.bytes[key], m.last[key] = bytes, m.now
	if len(m.bytes) > m.room {
		first := m.keys()[0]
		delete(m.bytes, first)
		delete(m.last, first)
	}
}

func (m *model) keys() []string {
	var keys []string
	for key := range m.bytes {
		keys = append(keys, key)
	}
	slices.SortFunc(keys, func(a, b string) int { return m.last[a] - m.last[b] })
	return keys
}

// P61: long rows of calls, held against a model.
func TestModel(t *testing.T) {
	r := rand.New(rand.NewSource(1))
	for range 300 {
		many := 1 + r.Intn(12)
		c, m := room(t, many), &model{room: many, bytes: map[string]string{}, last: map[string]int{}}
		for range 200 {
			key := fmt.Sprint(r.Intn(1 + many*3/2))
			if r.Intn(2) > 0 {
				bytes := fmt.Sprint(r.Intn(100))
				c.Put(key, bytes)
				m.put(key, bytes)
			} else {
				s, is := c.Get(key)
				if want, there := m.get(key); s != want || is != there {
					t.Fatalf("Get(%q) is %q, %v, not %q, %v", key, s, is, want, there)
				}
			}
			hold(t, c, m.keys()...)
		}
	}
}
