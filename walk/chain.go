package walk

import (
	"moraine/api"
	"moraine/block"
	"moraine/table"
)

// link is a cursor over one part of a chain: over a block of a table, over a table of a row.
type link interface {
	First() bool
	Last() bool
	Seek(k api.IKey) bool
	Next() bool
	Prev() bool
	Here() (api.Entry, bool)
	Err() api.Errno
}

// chain goes through parts that stand one behind the other.
type chain struct {
	count int
	open  func(i int) link
	at    int       // the part in which it stands; ahead, or count: behind
	here  link      // nil, where it stands at no entry
	err   api.Errno // of the last call that moved it
}

// ahead is where a chain stands that stands ahead of its first part.
const ahead = -1

func newChain(count int, open func(i int) link) chain {
	return chain{count: count, open: open, at: ahead}
}

func (c *chain) first() bool {
	return c.goUp(0, toFirst)
}

func (c *chain) last() bool {
	return c.goDown(c.count-1, toLast)
}

func (c *chain) next() bool {
	if c.here != nil && c.settle(c.at, c.here, c.here.Next()) {
		return c.here != nil
	}
	return c.goUp(c.at+1, toFirst)
}

func (c *chain) prev() bool {
	if c.here != nil && c.settle(c.at, c.here, c.here.Prev()) {
		return c.here != nil
	}
	return c.goDown(c.at-1, toLast)
}

func (c *chain) entry() (api.Entry, bool) {
	if c.here == nil {
		return api.Entry{}, false
	}
	return c.here.Here()
}

// goUp looks at the parts from the number i on, up to the first one in which enter comes to an entry.
func (c *chain) goUp(i int, enter func(i int, part link) bool) bool {
	for ; i < c.count; i++ {
		if part := c.open(i); c.settle(i, part, enter(i, part)) {
			return c.here != nil
		}
	}
	return c.leave(c.count)
}

// goDown looks at the parts from the number i back.
func (c *chain) goDown(i int, enter func(i int, part link) bool) bool {
	for ; i >= 0; i-- {
		if part := c.open(i); c.settle(i, part, enter(i, part)) {
			return c.here != nil
		}
	}
	return c.leave(ahead)
}

// settle tells whether the way ends in a part: at an entry of it, or since something of it can't be read.
func (c *chain) settle(i int, part link, there bool) bool {
	if there {
		c.at, c.here, c.err = i, part, api.OK
		return true
	}
	if e := part.Err(); e != api.OK {
		c.leave(c.count)
		c.err = e
		return true
	}
	return false
}

// leave puts it to one of the ends.
func (c *chain) leave(end int) bool {
	c.at, c.here, c.err = end, nil, api.OK
	return false
}

func toFirst(_ int, part link) bool { return part.First() }

func toLast(_ int, part link) bool { return part.Last() }

// blockLink is a block of a table as a part of a chain.
type blockLink struct {
	*block.Cursor // nil, if the block can't be read: such a one has no entry
}

// openBlock leaves it to block.Open to tell of both: of a block that table.Block does not tell there are no bytes, which are no block.
func openBlock(t *table.Table, i int) blockLink {
	b, _ := t.Block(i)
	c, _ := block.Open(b)
	return blockLink{c}
}

func (b blockLink) Here() (api.Entry, bool) {
	k, value, ok := b.Cursor.Here()
	return api.Entry{Key: k.Key, Seq: k.Seq, Kind: k.Kind, Value: value}, ok
}

func (b blockLink) Err() api.Errno {
	if b.Cursor == nil {
		return api.ErrTable
	}
	return api.OK
}
