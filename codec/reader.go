package codec

import "moraine/api"

// Reader reads one thing behind the other; the first error stays.
type Reader struct {
	made bool // tells a Reader of NewReader from a plain Reader{}
	b    []byte
	at   int
	err  api.Errno
}

// NewReader begins at the first byte.
func NewReader(b []byte) *Reader {
	return &Reader{made: true, b: withRoom(b, 0)}
}

// Varint reads a number.
func (r *Reader) Varint() uint64 {
	return whole(r, func() uint64 { return take(r, Varint) })
}

// Number reads a number that fits an int from 0 to most.
func (r *Reader) Number(most int) int {
	return whole(r, func() int { return r.takeNumber(most) })
}

// Fixed32 reads four bytes.
func (r *Reader) Fixed32() uint32 {
	return whole(r, func() uint32 { return take(r, Fixed32) })
}

// Fixed64 reads eight bytes.
func (r *Reader) Fixed64() uint64 {
	return whole(r, func() uint64 { return take(r, Fixed64) })
}

// Text reads a text of at most so many bytes.
func (r *Reader) Text(most int) string {
	return whole(r, func() string { return r.takeText(most) })
}

// Left tells how many bytes are left.
func (r *Reader) Left() int {
	if r == nil {
		return 0
	}
	return len(r.b) - r.at
}

// At tells the place.
func (r *Reader) At() int {
	if r == nil {
		return 0
	}
	return r.at
}

// Err tells the first error.
func (r *Reader) Err() api.Errno {
	if r == nil || !r.made {
		return api.ErrNil
	}
	return r.err
}

// whole reads one thing to its end. Where a part of it gives up, the reader keeps the error and goes back to where the thing began.
func whole[T any](r *Reader, read func() T) (v T) {
	if r.Err() != api.OK {
		return v
	}
	began := r.at
	defer func() {
		if p := recover(); p != nil {
			// Only an Errno is given up with: anything else is a fault of this package and must not pass for an error of the bytes.
			r.at, r.err = began, p.(api.Errno)
		}
	}()
	return read()
}

// take goes behind a part of a thing, or gives up.
func take[T any](r *Reader, read func(b []byte, at int) (T, int, api.Errno)) T {
	v, next, e := read(r.b, r.at)
	if e != api.OK {
		panic(e)
	}
	r.at = next
	return v
}

func (r *Reader) takeNumber(most int) int {
	v := take(r, Varint)
	if most < 0 || v > uint64(most) {
		panic(api.ErrBig)
	}
	return int(v)
}

// takeText asks for the length by itself, since a length that is too great comes ahead of bytes that are too few.
func (r *Reader) takeText(most int) string {
	length := r.takeNumber(most)
	if length > r.Left() {
		panic(api.ErrShort)
	}
	from := r.at
	r.at += length
	return string(r.b[from:r.at])
}
