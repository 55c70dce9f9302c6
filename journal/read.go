package journal

import (
	"iter"
	"slices"

	"moraine/api"
)

// Read tells the records of a file, how many bytes they take, and how it ended.
func Read(block int, file []byte) (records [][]byte, end, how int, e api.Errno) {
	if !isBlock(block) {
		return nil, 0, 0, api.ErrArg
	}
	r := reading{block: block, file: file}
	for behind, record := range r.records {
		records, end = append(records, record), behind
	}
	return records, end, r.how, api.OK
}

// All goes through the records, each with the place behind it.
func All(block int, file []byte) iter.Seq2[int, []byte] {
	if !isBlock(block) {
		return func(func(int, []byte) bool) {}
	}
	// The bytes may be changed ahead of the range, or in its midst.
	kept := slices.Clone(file)
	return func(yield func(int, []byte) bool) {
		r := reading{block: block, file: kept}
		r.records(yield)
	}
}

// reading is one way through a file, and how it ended.
type reading struct {
	block int
	file  []byte
	how   int
}

// records goes through the records that are whole, each in memory of its own, with the place behind it.
func (r *reading) records(yield func(int, []byte) bool) {
	var record []byte
	begun := false
pieces:
	for at := 0; at < len(r.file); {
		left := r.block - at%r.block
		there := r.file[at:min(at+left, len(r.file))]
		if left < headSize {
			for _, b := range there {
				if b != 0 {
					r.how = Bent
					break pieces
				}
			}
			at += len(there)
			continue pieces
		}
		var p piece
		p, r.how = pieceAt(there, left)
		if r.how == Clean && (p.begins() == begun || len(record)+len(p.data) > api.MaxRecord) {
			r.how = Bent
		}
		if r.how != Clean {
			break pieces
		}
		at += p.size()
		record, begun = append(record, p.data...), true
		if !p.ends() {
			continue pieces
		}
		if !yield(at, record) {
			return
		}
		record, begun = nil, false
	}
	if begun && r.how == Clean {
		r.how = Torn
	}
}

// pieceAt tells the piece that stands ahead in what is there of a block, of which so many bytes are left; no piece, where it is torn or bent.
func pieceAt(there []byte, left int) (piece, int) {
	if len(there) < headSize {
		return piece{}, Torn
	}
	sum := uint32(there[0]) | uint32(there[1])<<8 | uint32(there[2])<<16 | uint32(there[3])<<24
	count := int(there[4]) | int(there[5])<<8
	p := piece{kind: there[6]}
	if p.kind < whole || p.kind > ending || count > left-headSize {
		return piece{}, Bent
	}
	if count > len(there)-headSize {
		return piece{}, Torn
	}
	p.data = there[headSize : headSize+count]
	if p.sum() != sum {
		return piece{}, Bent
	}
	return p, Clean
}
