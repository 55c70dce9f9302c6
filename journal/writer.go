package journal

import (
	"math"

	"moraine/api"
)

// Writer lays records into blocks. A block of 0 bytes marks one that NewWriter did not make.
type Writer struct {
	block int
	size  uint64 // wider than the sizes that may be said, so that no sum leaves its range
}

// NewWriter goes on behind a file's bytes.
func NewWriter(block, size int) (*Writer, api.Errno) {
	if !isBlock(block) || size < 0 {
		return nil, api.ErrArg
	}
	return &Writer{block: block, size: uint64(size)}, api.OK
}

// Add tells the bytes that a record adds to the file.
func (w *Writer) Add(record []byte) ([]byte, api.Errno) {
	if w.isNone() {
		return nil, api.ErrNil
	}
	if len(record) > api.MaxRecord {
		return nil, api.ErrBig
	}
	noughts, room := w.rest()
	out := make([]byte, noughts, w.Cost(len(record)))
	for first := true; ; first = false {
		count := min(len(record), room)
		last := count == len(record)
		out = putPiece(out, piece{kind: kindOf(first, last), data: record[:count]})
		if last {
			break
		}
		record, room = record[count:], w.block-headSize
	}
	w.size += uint64(len(out))
	return out, api.OK
}

// Size tells how many bytes the file has.
func (w *Writer) Size() int {
	if w.isNone() {
		return 0
	}
	return int(min(w.size, math.MaxInt))
}

// Cost tells how many bytes a record of a length would add.
func (w *Writer) Cost(n int) int {
	if w.isNone() || n < 0 || n > api.MaxRecord {
		return 0
	}
	noughts, room := w.rest()
	pieces := 1
	if n > room {
		fresh := w.block - headSize
		pieces += (n - room + fresh - 1) / fresh
	}
	return noughts + pieces*headSize + n
}

func (w *Writer) isNone() bool {
	return w == nil || w.block == 0
}

// rest tells how many noughts come ahead of the next piece, and how many data have room in it.
func (w *Writer) rest() (noughts, room int) {
	left := w.block - int(w.size%uint64(w.block))
	if left < headSize {
		return left, w.block - headSize
	}
	return 0, left - headSize
}

// kindOf tells what a piece is of its record.
func kindOf(first, last bool) byte {
	switch {
	case first && last:
		return whole
	case first:
		return beginning
	case last:
		return ending
	}
	return midst
}

// putPiece puts a piece behind what is there.
func putPiece(out []byte, p piece) []byte {
	sum, count := p.sum(), len(p.data)
	out = append(out, byte(sum), byte(sum>>8), byte(sum>>16), byte(sum>>24), byte(count), byte(count>>8), p.kind)
	return append(out, p.data...)
}
