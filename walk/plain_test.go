package walk

import (
	"encoding/binary"
	"fmt"
	"hash/crc32"
	"math/bits"
	"slices"
	"testing"

	"moraine/api"
	"moraine/block"
	"moraine/table"
)

// What the chapter says, word by word and without the package's own functions: the tests hold the package against it. Of the layers below block makes the blocks' bytes, and table opens the files.

// brief tells the beginning of anything.
func brief(x any) string {
	s := fmt.Sprintf("%+v", x)
	return s[:min(len(s), 200)]
}

func put(key string, seq uint64) api.Entry {
	return api.Entry{Key: key, Seq: seq, Kind: api.KindPut, Value: fmt.Sprintf("%s of %d", key, seq)}
}

func del(key string, seq uint64) api.Entry { return api.Entry{Key: key, Seq: seq} }

func at(key string, seq uint64) api.IKey {
	return api.IKey{Key: key, Seq: seq, Kind: api.KindSeek}
}

func keyOf(e api.Entry) api.IKey { return api.IKey{Key: e.Key, Seq: e.Seq, Kind: e.Kind} }

// plainBelow tells whether one key is ahead of another.
func plainBelow(a, b api.IKey) bool {
	switch {
	case a.Key != b.Key:
		return a.Key < b.Key
	case a.Seq != b.Seq:
		return a.Seq > b.Seq
	}
	return a.Kind > b.Kind
}

// What is wrong with a block.
const (
	whole  = iota
	turned // a bit of it is another
	bent   // its sum is right, but it is no block
	short  // it has no bytes, and the right sum
)

// page is a data block: its entries, its key in the index, and what is wrong with it.
type page struct {
	key     api.IKey
	fault   int
	entries []api.Entry
}

// of is a page of entries, by the key of its last one in the index.
func of(l ...api.Entry) page { return page{key: keyOf(l[len(l)-1]), entries: l} }

// none is a page without entries.
func none(key string) page { return page{key: at(key, 0)} }

// wrong is a page as it is, with a fault.
func (p page) wrong(fault int) page {
	p.fault = fault
	return p
}

// blockBytes tells a block of what is added.
func blockBytes(restart int, add func(put func(k api.IKey, value string))) []byte {
	b, _ := block.NewBuilder(restart)
	add(func(k api.IKey, value string) {
		if e := b.Add(k, value); e != api.OK {
			panic(e)
		}
	})
	return b.Bytes()
}

// bytes tells the page's bytes; of a turned one those that its sum is of.
func (p page) bytes() []byte {
	b := blockBytes(2, func(put func(api.IKey, string)) {
		for _, e := range p.entries {
			put(keyOf(e), e.Value)
		}
	})
	switch p.fault {
	case bent:
		return append(b, 0)
	case short:
		return nil
	}
	return b
}

func trailed(b []byte) []byte {
	sum := crc32.Checksum(b, crc32.MakeTable(crc32.Castagnoli))
	return binary.LittleEndian.AppendUint32(slices.Clone(b), bits.RotateLeft32(sum, -15)+0xa282ead8)
}

// laid tells the file of pages.
func laid(pages []page) []byte {
	var file []byte
	index := blockBytes(1, func(put func(api.IKey, string)) {
		for _, p := range pages {
			b := p.bytes()
			put(p.key, string(binary.AppendUvarint(binary.AppendUvarint(nil, uint64(len(file))), uint64(len(b)))))
			b = trailed(b)
			if p.fault == turned {
				b[len(p.bytes())/2] ^= 4
			}
			file = append(file, b...)
		}
	})
	var footer []byte
	for _, part := range [][]byte{nil, make([]byte, 4), index} {
		footer = binary.LittleEndian.AppendUint64(footer, uint64(len(file)))
		footer = binary.LittleEndian.AppendUint64(footer, uint64(len(part)))
		file = append(file, trailed(part)...)
	}
	return slices.Concat(file, footer, []byte("moraine1"))
}

// opened tells the table of pages.
func opened(t *testing.T, pages []page) *table.Table {
	t.Helper()
	x, e := table.Open(laid(pages))
	if e != api.OK {
		t.Fatalf("no table: %s", brief(pages))
	}
	return x
}

// walker is what both kinds of cursors do, and the plain ones.
type walker interface {
	First() bool
	Last() bool
	Seek(k api.IKey) bool
	Next() bool
	Prev() bool
	Here() (api.Entry, bool)
	Err() api.Errno
}

// item is what a plain cursor passes: an entry of a page, or a page that can't be read.
type item struct {
	page   int
	isPage bool
	entry  api.Entry
}

// plainCursor goes through items; it stands ahead at -1, behind behind the last one.
type plainCursor struct {
	items []item
	find  func(k api.IKey) int // the page that Seek looks at first
	at    int
	err   api.Errno
}

func newPlain(pages []page) *plainCursor {
	c := &plainCursor{at: -1}
	for i, p := range pages {
		if p.fault != whole {
			c.items = append(c.items, item{page: i, isPage: true})
			continue
		}
		for _, e := range p.entries {
			c.items = append(c.items, item{page: i, entry: e})
		}
	}
	c.find = func(k api.IKey) int {
		for i, p := range pages {
			if !plainBelow(p.key, k) {
				return i
			}
		}
		return len(pages)
	}
	return c
}

// newPlainRow goes through entries that rise as if they stood in one page.
func newPlainRow(tables ...[]page) *plainCursor {
	c := &plainCursor{at: -1, find: func(api.IKey) int { return 0 }}
	for _, pages := range tables {
		for _, p := range pages {
			for _, e := range p.entries {
				c.items = append(c.items, item{entry: e})
			}
		}
	}
	return c
}

// pass goes from the item i by steps to the first one that is taken.
func (c *plainCursor) pass(i, step int, take func(x item) bool) bool {
	c.err = api.OK
	for ; i >= 0 && i < len(c.items); i += step {
		if c.items[i].isPage {
			c.at, c.err = len(c.items), api.ErrTable
			return false
		}
		if take(c.items[i]) {
			c.at = i
			return true
		}
	}
	c.at = i
	return false
}

func any1(item) bool { return true }

func (c *plainCursor) First() bool { return c.pass(0, 1, any1) }

func (c *plainCursor) Last() bool { return c.pass(len(c.items)-1, -1, any1) }

func (c *plainCursor) Next() bool { return c.pass(min(c.at+1, len(c.items)), 1, any1) }

func (c *plainCursor) Prev() bool { return c.pass(max(c.at-1, -1), -1, any1) }

func (c *plainCursor) Seek(k api.IKey) bool {
	p := c.find(k)
	i := 0
	for i < len(c.items) && c.items[i].page < p {
		i++
	}
	return c.pass(i, 1, func(x item) bool { return x.page > p || !plainBelow(keyOf(x.entry), k) })
}

func (c *plainCursor) Here() (api.Entry, bool) {
	if c.at < 0 || c.at >= len(c.items) {
		return api.Entry{}, false
	}
	return c.items[c.at].entry, true
}

func (c *plainCursor) Err() api.Errno { return c.err }

// call is one of the five that move a cursor.
type call struct {
	name string
	of   func(w walker) bool
}

func seek(k api.IKey) call {
	return call{fmt.Sprintf("Seek(%+v)", k), func(w walker) bool { return w.Seek(k) }}
}

// calls are the four others.
func calls() []call {
	return []call{{"First", walker.First}, {"Last", walker.Last}, {"Next", walker.Next}, {"Prev", walker.Prev}}
}

// same holds where two cursors stand, and their errors, against each other; Here and Err, asked twice, tell the same.
func same(t *testing.T, what string, got, want walker) {
	t.Helper()
	x, is := want.Here()
	for range 2 {
		if e, ok := got.Here(); e != x || ok != is || got.Err() != want.Err() {
			t.Fatalf("%s: at %s (%v), error %d; want %s (%v), error %d", what, brief(e), ok, int(got.Err()), brief(x), is, int(want.Err()))
		}
	}
}

// moved holds a call's answer, and what comes of it.
func moved(t *testing.T, what string, c call, got, want walker) {
	t.Helper()
	a, b := c.of(got), c.of(want)
	if a != b {
		t.Fatalf("%s: %v, want %v", what, a, b)
	}
	same(t, what, got, want)
}

// walked holds two new cursors against each other along every way of so many calls.
func walked(t *testing.T, what string, l []call, deep int, fresh func() (got, want walker)) {
	t.Helper()
	var way []call
	var on func()
	on = func() {
		if len(way) == deep {
			got, want := fresh()
			same(t, what+" new", got, want)
			path := what
			for _, c := range way {
				path += " " + c.name
				moved(t, path, c, got, want)
			}
			return
		}
		for _, c := range l {
			way = append(way, c)
			on()
			way = way[:len(way)-1]
		}
	}
	on()
}
