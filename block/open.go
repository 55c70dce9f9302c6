package block

import (
	"moraine/api"
	"moraine/codec"
	"moraine/ikey"
)

// entry is an internal key with its value.
type entry struct {
	key   api.IKey
	value string
}

// reading is how far a block has been read.
type reading struct {
	b       []byte // the entries' bytes
	at      int
	places  []byte // of the restarts that were not met yet
	key     []byte // the bytes of the last key
	entries []entry
}

// Open reads a block.
func Open(b []byte) (c *Cursor, e api.Errno) {
	defer func() {
		if recover() != nil {
			c, e = nil, api.ErrBlock
		}
	}()
	return &Cursor{entries: readAll(b)}, api.OK
}

// must gives up, if the bytes are no block.
func must(ok bool) {
	if !ok {
		panic(api.ErrBlock)
	}
}

// readAll reads all entries; the bytes are not kept.
func readAll(b []byte) []entry {
	entries, places := parts(b)
	r := &reading{b: entries, places: places}
	for r.at < len(r.b) {
		r.takeEntry()
	}
	// Places are met in their order, each by the entry that begins there: one that is left has none, or does not rise.
	must(len(r.places) == 0)
	return r.entries
}

// parts tells the entries' bytes and those of the restarts' places.
func parts(b []byte) (entries, places []byte) {
	end := len(b) - wordSize
	count, _, e := codec.Fixed32(b, end)
	must(e == api.OK)
	must(uint64(count) <= uint64(end/wordSize))
	begin := end - wordSize*int(count)
	return b[:begin], b[begin:end]
}

func (r *reading) takeEntry() {
	isRestart := r.takePlace()
	must(isRestart || len(r.entries) > 0)
	shared, rest, size := r.takeNumber(), r.takeNumber(), r.takeNumber()
	must(shared == 0 || !isRestart)
	must(shared <= uint64(len(r.key)))
	must(size <= api.MaxValue)
	r.key = append(r.key[:shared], r.takeBytes(rest)...)
	key, e := ikey.Decode(r.key)
	must(e == api.OK)
	must(r.isBehindLast(key))
	r.entries = append(r.entries, entry{key: key, value: string(r.takeBytes(size))})
}

// takePlace tells whether the next place of a restart is where the reading stands, and if so goes behind it.
func (r *reading) takePlace() bool {
	place, next, e := codec.Fixed32(r.places, 0)
	if e != api.OK || uint64(place) != uint64(r.at) {
		return false
	}
	r.places = r.places[next:]
	return true
}

func (r *reading) takeNumber() uint64 {
	v, next, e := codec.Varint(r.b, r.at)
	must(e == api.OK)
	r.at = next
	return v
}

func (r *reading) takeBytes(size uint64) []byte {
	must(size <= uint64(len(r.b)-r.at))
	from := r.at
	r.at += int(size)
	return r.b[from:r.at]
}

func (r *reading) isBehindLast(key api.IKey) bool {
	n := len(r.entries)
	return n == 0 || ikey.Compare(r.entries[n-1].key, key) < 0
}
