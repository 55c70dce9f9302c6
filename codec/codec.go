// Package codec is layer 1: numbers and texts as bytes, and back. See shared/doc/01-codec.md.
package codec

import (
	"math/bits"

	"moraine/api"
)

// lastByte is the place of a varint's tenth byte: of 64 bits nine groups of seven leave it one.
const lastByte = 9

// Size tells how many bytes a number has as a varint.
func Size(v uint64) int {
	return (bits.Len64(v|1) + 6) / 7
}

// PutVarint lays a number behind bytes.
func PutVarint(b []byte, v uint64) []byte {
	return appendVarint(withRoom(b, Size(v)), v)
}

// Varint reads a number at a place, and tells the place behind it.
func Varint(b []byte, at int) (v uint64, next int, e api.Errno) {
	if isOutside(b, at) {
		return 0, 0, api.ErrArg
	}
	for i, c := range b[at:] {
		if i == lastByte && c > 1 {
			return 0, 0, api.ErrForm
		}
		v |= uint64(c&127) << (7 * i)
		if c >= 128 {
			continue
		}
		if c == 0 && i > 0 {
			return 0, 0, api.ErrForm
		}
		return v, at + i + 1, api.OK
	}
	return 0, 0, api.ErrShort
}

// PutFixed32 lays four bytes.
func PutFixed32(b []byte, v uint32) []byte {
	return putFixed(b, uint64(v), 4)
}

// Fixed32 reads four bytes.
func Fixed32(b []byte, at int) (v uint32, next int, e api.Errno) {
	wide, next, e := fixed(b, at, 4)
	return uint32(wide), next, e
}

// PutFixed64 lays eight bytes.
func PutFixed64(b []byte, v uint64) []byte {
	return putFixed(b, v, 8)
}

// Fixed64 reads eight bytes.
func Fixed64(b []byte, at int) (v uint64, next int, e api.Errno) {
	return fixed(b, at, 8)
}

// PutText lays a text with its length ahead.
func PutText(b []byte, s string) []byte {
	length := uint64(len(s))
	out := appendVarint(withRoom(b, Size(length)+len(s)), length)
	return append(out, s...)
}

// Text reads a text with its length ahead.
func Text(b []byte, at int) (s string, next int, e api.Errno) {
	length, from, e := Varint(b, at)
	if e != api.OK {
		return "", 0, e
	}
	// The length is held against what is left ahead of its becoming an int, which it need not fit.
	if length > uint64(len(b)-from) {
		return "", 0, api.ErrShort
	}
	next = from + int(length)
	return string(b[from:next]), next, api.OK
}

// Zig tells a number with a sign as one without.
func Zig(v int64) uint64 {
	return uint64(v)<<1 ^ uint64(v>>63)
}

// Zag takes it back.
func Zag(v uint64) int64 {
	return int64(v>>1) ^ -int64(v&1)
}

// isOutside tells whether a place is none of b. The one right behind the last byte is one: nothing stands there.
func isOutside(b []byte, at int) bool {
	return at < 0 || at > len(b)
}

// withRoom copies b: what is put must not get into the caller's spare room.
func withRoom(b []byte, more int) []byte {
	return append(make([]byte, 0, len(b)+more), b...)
}

func appendVarint(b []byte, v uint64) []byte {
	for ; v >= 128; v >>= 7 {
		b = append(b, byte(v)|128)
	}
	return append(b, byte(v))
}

func putFixed(b []byte, v uint64, size int) []byte {
	out := withRoom(b, size)
	for i := range size {
		out = append(out, byte(v>>(8*i)))
	}
	return out
}

func fixed(b []byte, at, size int) (v uint64, next int, e api.Errno) {
	if isOutside(b, at) {
		return 0, 0, api.ErrArg
	}
	if len(b)-at < size {
		return 0, 0, api.ErrShort
	}
	for i := range size {
		v |= uint64(b[at+i]) << (8 * i)
	}
	return v, at + size, api.OK
}
