package table

import (
	"moraine/api"
	"moraine/check"
	"moraine/codec"
)

const (
	trailerSize = 4
	footerSize  = 56
	// mark is what every footer ends with.
	mark = "moraine1"
)

// handle is where a part of a file stands, and how many bytes it has without its trailer.
type handle struct{ place, size int }

// end tells where its trailer begins.
func (h handle) end() int {
	return h.place + h.size
}

// next tells the handle of a part of that size that stands right behind.
func (h handle) next(size int) handle {
	return handle{place: h.end() + trailerSize, size: size}
}

// of tells its bytes, in the file's memory.
func (h handle) of(file []byte) []byte {
	return file[h.place:h.end()]
}

// isWhole tells whether its trailer has the sum of its bytes.
func (h handle) isWhole(file []byte) bool {
	sum, _, _ := codec.Fixed32(file, h.end())
	return sum == maskedSum(h.of(file))
}

// isRow tells whether parts stand one behind the other, with room for just their trailers between.
func isRow(first handle, others ...handle) bool {
	for _, h := range others {
		if h != first.next(h.size) {
			return false
		}
		first = h
	}
	return true
}

func maskedSum(part []byte) uint32 {
	return check.Mask(check.Sum(part))
}

// newFile begins a file. What it tells shares how far the file has come: part puts a part with its trailer behind the others, finish the footer behind all parts.
func newFile() (part func(b []byte) handle, finish func(filter, tombs, index handle) []byte) {
	var file []byte
	part = func(b []byte) handle {
		h := handle{place: len(file), size: len(b)}
		file = append(file, b...)
		file = append(file, codec.PutFixed32(nil, maskedSum(b))...)
		return h
	}
	finish = func(filter, tombs, index handle) []byte {
		for _, h := range [...]handle{filter, tombs, index} {
			file = append(file, codec.PutFixed64(nil, uint64(h.place))...)
			file = append(file, codec.PutFixed64(nil, uint64(h.size))...)
		}
		file = append(file, mark...)
		return file
	}
	return part, finish
}

// footer is what a file's end tells of its parts.
type footer struct{ filter, tombs, index handle }

// readFooter tells the footer of a file; false, if it ends with none or its parts do not stand as is told.
func readFooter(file []byte) (footer, bool) {
	own := handle{place: len(file) - footerSize, size: footerSize}
	if own.place < 0 {
		return footer{}, false
	}
	r := codec.NewReader(own.of(file))
	var parts [3]handle
	for i := range parts {
		place, size := r.Fixed64(), r.Fixed64()
		// Held against the file ahead of becoming ints, which they need not fit.
		if max(place, size) > uint64(own.place) {
			return footer{}, false
		}
		parts[i] = handle{place: int(place), size: int(size)}
	}
	f := footer{filter: parts[0], tombs: parts[1], index: parts[2]}
	return f, string(file[len(file)-len(mark):]) == mark && isRow(f.filter, f.tombs, f.index, own)
}

// handleText tells how the index writes a data block's handle.
func handleText(h handle) string {
	return string(codec.PutVarint(codec.PutVarint(nil, uint64(h.place)), uint64(h.size)))
}

// readHandle reads that again; false, if it is none of numbers up to most.
func readHandle(text string, most int) (handle, bool) {
	r := codec.NewReader([]byte(text))
	place, size := r.Number(most), r.Number(most)
	return handle{place: place, size: size}, r.Err() == api.OK && r.Left() == 0
}
