package batch

import (
	"moraine/api"
	"moraine/codec"
)

// mayNotBe tells whether an operation is none.
func mayNotBe(o api.Op) bool {
	return !mayBe(o)
}

// mayBe tells whether an operation is one.
func mayBe(o api.Op) bool {
	if !isKeySize(len(o.Key)) {
		return false
	}
	switch o.Kind {
	case api.KindDelete:
		return o.Value == ""
	case api.KindPut:
		return len(o.Value) <= api.MaxValue
	case api.KindRange:
		return isKeySize(len(o.Value)) && o.Key < o.Value
	}
	return false
}

func isKeySize(size int) bool {
	return size >= 1 && size <= api.MaxKey
}

// hasValue tells whether a value stands in the bytes of an operation of a kind.
func hasValue(kind int) bool {
	return kind != api.KindDelete
}

// opSize tells how many bytes an operation has.
func opSize(o api.Op) int {
	size := 1 + textSize(o.Key)
	if hasValue(o.Kind) {
		size += textSize(o.Value)
	}
	return size
}

func textSize(s string) int {
	return codec.Size(uint64(len(s))) + len(s)
}

// appendOp lays an operation that may be behind bytes, in their own spare room: codec copies what is ahead of each thing that it puts.
func appendOp(b []byte, o api.Op) []byte {
	b = append(b, byte(o.Kind))
	b = append(b, codec.PutText(nil, o.Key)...)
	if hasValue(o.Kind) {
		b = append(b, codec.PutText(nil, o.Value)...)
	}
	return b
}

// readOp reads an operation at a place, and tells the place behind it; ok: one that may be stands there.
func readOp(b []byte, at int) (o api.Op, next int, ok bool) {
	if at >= len(b) {
		return o, at, false
	}
	o.Kind = int(b[at])
	key, next, e := codec.Text(b, at+1)
	if e != api.OK {
		return o, at, false
	}
	o.Key = key
	if hasValue(o.Kind) {
		if o.Value, next, e = codec.Text(b, next); e != api.OK {
			return o, at, false
		}
	}
	return o, next, mayBe(o)
}
