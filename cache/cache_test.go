package cache

import "testing"

func want(t *testing.T, c *Cache[string, int], key string, value int, kept bool) {
	t.Helper()
	if v, ok := c.Find(key); v != value || ok != kept {
		t.Errorf("Find(%q) = %d, %v, want %d, %v", key, v, ok, value, kept)
	}
}

func TestAnEmptyCacheIsReady(t *testing.T) {
	var c Cache[string, int]
	want(t, &c, "a", 0, false)
	c.Drop()
	c.Drop("a", "b")
	c.Keep("a", 0)
	want(t, &c, "a", 0, true)
}

func TestKeepTakesTheNewestValue(t *testing.T) {
	var c Cache[string, int]
	c.Keep("a", 1)
	c.Keep("a", 2)
	want(t, &c, "a", 2, true)
}

func TestDropLetsGoOfTheNamedKeysAlone(t *testing.T) {
	var c Cache[string, int]
	for i, key := range []string{"a", "b", "c", "d"} {
		c.Keep(key, i)
	}
	c.Drop()
	want(t, &c, "a", 0, true)
	c.Drop("b", "x", "d", "b")
	want(t, &c, "a", 0, true)
	want(t, &c, "b", 0, false)
	want(t, &c, "c", 2, true)
	want(t, &c, "d", 0, false)
}
