// Package cache: what was found once, kept by its key until it is let go.
package cache

// Cache keeps values by keys; an empty one is ready for use.
type Cache[K comparable, V any] struct {
	kept map[K]V
}

// Keep remembers the value of a key.
func (c *Cache[K, V]) Keep(key K, value V) {
	if c.kept == nil {
		c.kept = make(map[K]V)
	}
	c.kept[key] = value
}

// Find tells the value of a key, and whether one is kept.
func (c *Cache[K, V]) Find(key K) (V, bool) {
	value, ok := c.kept[key]
	return value, ok
}

// Drop lets go of the values of all these keys, kept or not.
func (c *Cache[K, V]) Drop(keys ...K) {
	for _, key := range keys {
		delete(c.kept, key)
	}
}
