package mem

import (
	"moraine/api"
	"moraine/skip"
)

// Where a cursor stands that stands at no entry; nodes have numbers from 1 on.
const (
	ahead  = 0
	behind = -1
)

// Cursor goes through the entries that are there at each call.
type Cursor struct {
	entries *skip.List[string] // nil in a plain Cursor{} alone, which by that is told from one that a memtable gave
	at      int                // a node's number, ahead or behind: nodes keep their numbers, whatever comes
}

// direction is one of the two ways that a cursor goes: from one end to the other.
type direction struct {
	start func() int
	step  func(int) int
	from  int
	to    int
}

// First goes to the first one.
func (c *Cursor) First() bool {
	return !c.isNone() && c.stand(c.entries.First(), behind)
}

// Last goes to the last one.
func (c *Cursor) Last() bool {
	return !c.isNone() && c.stand(c.entries.Last(), ahead)
}

// Seek goes to the first one that is not below a key.
func (c *Cursor) Seek(k api.IKey) bool {
	return !c.isNone() && c.stand(c.entries.Seek(k), behind)
}

// Next goes on by one.
func (c *Cursor) Next() bool {
	return !c.isNone() && c.walk(direction{start: c.entries.First, step: c.entries.Next, from: ahead, to: behind})
}

// Prev goes back by one.
func (c *Cursor) Prev() bool {
	return !c.isNone() && c.walk(direction{start: c.entries.Last, step: c.entries.Prev, from: behind, to: ahead})
}

// Here tells where it stands.
func (c *Cursor) Here() (api.Entry, bool) {
	if c.isNone() {
		return api.Entry{}, false
	}
	return entryOf(c.entries, c.at)
}

func (c *Cursor) isNone() bool {
	return c == nil || c.entries == nil
}

// walk goes on by one in a direction.
func (c *Cursor) walk(d direction) bool {
	switch c.at {
	case d.from:
		return c.stand(d.start(), d.to)
	case d.to:
		// It stays there, also if entries came meanwhile.
		return false
	}
	return c.stand(d.step(c.at), d.to)
}

// stand puts the cursor to a node, or, where there is none, to an end.
func (c *Cursor) stand(n, end int) bool {
	if n == 0 {
		c.at = end
		return false
	}
	c.at = n
	return true
}
