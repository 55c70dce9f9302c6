package table

import (
	"bytes"
	"slices"

	"moraine/api"
	"moraine/block"
	"moraine/tomb"
)

// Open reads a table.
func Open(file []byte) (*Table, api.Errno) {
	f, ok := readFooter(file)
	if !ok || !f.filter.isWhole(file) || !f.tombs.isWhole(file) || !f.index.isWhole(file) {
		return nil, api.ErrTable
	}
	t := &Table{opened: true, data: bytes.Clone(file[:f.filter.place]), filter: bytes.Clone(f.filter.of(file))}
	if !readAll(f.tombs.of(file), t.takeTomb) || !readAll(f.index.of(file), t.takeBlock) || !t.isFilled(f.filter) {
		return nil, api.ErrTable
	}
	return t, api.OK
}

// readAll hands on all entries of a block; false, if the bytes are no block or an entry is not taken.
func readAll(b []byte, take func(k api.IKey, value string) bool) bool {
	c, e := block.Open(b)
	if e != api.OK {
		return false
	}
	for c.Next() {
		if k, value, _ := c.Here(); !take(k, value) {
			return false
		}
	}
	return true
}

func (t *Table) takeTomb(k api.IKey, value string) bool {
	x := api.Tomb{Begin: k.Key, End: value, Seq: k.Seq}
	t.tombs = append(t.tombs, x)
	return k.Kind == api.KindRange && tomb.Valid(x)
}

func (t *Table) takeBlock(k api.IKey, value string) bool {
	h, ok := readHandle(value, len(t.data))
	t.keys, t.blocks = append(t.keys, k), append(t.blocks, h)
	return ok
}

// isFilled tells whether the data blocks stand one behind the other from the file's beginning up to the filter.
func (t *Table) isFilled(filter handle) bool {
	row := slices.Concat(t.blocks, []handle{filter})
	return row[0].place == 0 && isRow(row[0], row[1:]...)
}
