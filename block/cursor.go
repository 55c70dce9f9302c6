package block

import (
	"slices"

	"moraine/api"
	"moraine/ikey"
)

// Cursor goes through a block. A plain Cursor{} is as one over a block without entries, whose answers are zero values.
type Cursor struct {
	entries []entry
	at      int // 0: ahead; from 1 on: the first entry and so on; one above the last: behind
}

// Len tells how many entries it has.
func (c *Cursor) Len() int {
	if c == nil {
		return 0
	}
	return len(c.entries)
}

// First goes to the first one.
func (c *Cursor) First() bool {
	return c != nil && c.stand(1)
}

// Last goes to the last one.
func (c *Cursor) Last() bool {
	return c != nil && c.stand(len(c.entries))
}

// Seek goes to the first one that is not below a key.
func (c *Cursor) Seek(k api.IKey) bool {
	if c == nil {
		return false
	}
	below, _ := slices.BinarySearchFunc(c.entries, k, compareTo)
	return c.stand(below + 1)
}

// Next goes on by one.
func (c *Cursor) Next() bool {
	return c != nil && c.stand(min(c.at, len(c.entries))+1)
}

// Prev goes back by one.
func (c *Cursor) Prev() bool {
	return c != nil && c.stand(max(c.at, 1)-1)
}

// Here tells where it stands.
func (c *Cursor) Here() (k api.IKey, value string, ok bool) {
	if c == nil || !c.isAtOne() {
		return api.IKey{}, "", false
	}
	x := c.entries[c.at-1]
	return x.key, x.value, true
}

// stand puts the cursor to a place, which at the ends is ahead or behind.
func (c *Cursor) stand(at int) bool {
	c.at = at
	return c.isAtOne()
}

func (c *Cursor) isAtOne() bool {
	return c.at >= 1 && c.at <= len(c.entries)
}

func compareTo(x entry, k api.IKey) int {
	return ikey.Compare(x.key, k)
}
