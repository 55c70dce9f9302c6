package table

import (
	"maps"
	"slices"

	"moraine/api"
	"moraine/block"
	"moraine/bloom"
	"moraine/ikey"
)

// draft is a file that is not finished: its full data blocks are put down, all else is gathered. What it is handed fits: the builder has seen to it.
type draft struct {
	shape  api.Shape
	part   func(b []byte) handle
	end    func(filter, tombs, index handle) []byte
	data   *block.Builder // the data block that is not full
	index  *block.Builder // of all data blocks but the last one
	full   handle         // the last data block that is put down; handle{}: none that the index still lacks
	last   api.IKey       // of the entries; ahead of the first one a key without bytes, below all that may come
	keys   []string       // of the entries, each once, for the filter
	ranges map[api.IKey]api.Tomb
}

func newDraft(s api.Shape) *draft {
	d := &draft{shape: s, data: newBlock(s.Restart), index: newBlock(1), ranges: map[api.IKey]api.Tomb{}}
	d.part, d.end = newFile()
	return d
}

// newBlock makes a block's builder, with a restart that a shape may have.
func newBlock(restart int) *block.Builder {
	b, _ := block.NewBuilder(restart)
	return b
}

// add puts an entry behind the others.
func (d *draft) add(k api.IKey, value string) {
	if d.full != (handle{}) {
		// A full block waits for the key ahead of which its own in the index must lie.
		d.indexFull(parting(d.last, k))
	}
	if d.shape.Bits > 0 && k.Key != d.last.Key {
		d.keys = append(d.keys, k.Key)
	}
	d.data.Add(k, value)
	d.last = k
	if d.data.Size() >= d.shape.Page {
		d.cut()
	}
}

// addTomb puts a tomb to it; false, if one with the same Begin and number is there.
func (d *draft) addTomb(t api.Tomb) bool {
	k := api.IKey{Key: t.Begin, Seq: t.Seq, Kind: api.KindRange}
	if _, there := d.ranges[k]; there {
		return false
	}
	d.ranges[k] = t
	return true
}

// finish puts down all that was gathered, and tells the file.
func (d *draft) finish() []byte {
	if d.data.Len() > 0 {
		d.cut()
	}
	if d.full != (handle{}) {
		d.indexFull(d.last)
	}
	filter := d.part(d.filter())
	tombs := d.part(d.tombs())
	index := d.part(d.index.Bytes())
	return d.end(filter, tombs, index)
}

// cut puts the data block down, and begins another.
func (d *draft) cut() {
	d.full = d.part(d.data.Bytes())
	d.data = newBlock(d.shape.Restart)
}

// indexFull puts the full block into the index.
func (d *draft) indexFull(k api.IKey) {
	d.index.Add(k, handleText(d.full))
	d.full = handle{}
}

// filter tells the filter's bytes.
func (d *draft) filter() []byte {
	// Of a shape without bits Make tells no bytes, as it should be.
	b, _ := bloom.Make(d.keys, d.shape.Bits)
	return b
}

// tombs tells the tombs' block.
func (d *draft) tombs() []byte {
	b := newBlock(1)
	for _, k := range slices.SortedFunc(maps.Keys(d.ranges), ikey.Compare) {
		b.Add(k, d.ranges[k].End)
	}
	return b.Bytes()
}

// parting tells a data block's key in the index: not below its last one, and below the next block's first one.
func parting(last, next api.IKey) api.IKey {
	if s := ikey.Between(last.Key, next.Key); s > last.Key {
		return ikey.At(s, api.MaxSeq)
	}
	return last
}
