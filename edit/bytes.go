package edit

import (
	"bytes"

	"moraine/api"
	"moraine/codec"
)

// What stands ahead of each thing.
const (
	tagLog  = 1
	tagNext = 2
	tagSeq  = 3
	tagGone = 4
	tagCome = 5
)

// Encode tells an edit's bytes.
func Encode(e api.Edit) ([]byte, api.Errno) {
	if !Valid(e) {
		return nil, api.ErrArg
	}
	var out []byte
	out = appendSaid(out, tagLog, uint64(e.Log))
	out = appendSaid(out, tagNext, uint64(e.Next))
	out = appendSaid(out, tagSeq, e.Seq)
	for _, p := range e.Gone {
		out = appendNumbers(append(out, tagGone), uint64(p.Level), uint64(p.Number))
	}
	for _, x := range e.Come {
		f := x.File
		out = appendNumbers(append(out, tagCome), uint64(x.Level), uint64(f.Number), uint64(f.Size))
		out = append(out, codec.PutText(nil, f.Least)...)
		out = append(out, codec.PutText(nil, f.Limit)...)
		out = appendNumbers(out, f.Low, f.High)
	}
	return out, api.OK
}

// Decode reads an edit.
func Decode(b []byte) (api.Edit, api.Errno) {
	var out api.Edit
	var again []byte
	var e api.Errno
	for at := 0; at < len(b); {
		tag := b[at]
		at++
		switch tag {
		case tagLog:
			at, e = readInto(b, at, number, &out.Log)
		case tagNext:
			at, e = readInto(b, at, number, &out.Next)
		case tagSeq:
			at, e = readInto(b, at, codec.Varint, &out.Seq)
		case tagGone:
			var p api.Place
			at, e = readInto(b, at, number, &p.Level, &p.Number)
			out.Gone = append(out.Gone, p)
		case tagCome:
			var x api.Added
			x, at, e = readAdded(b, at)
			out.Come = append(out.Come, x)
		default:
			goto none
		}
		if e != api.OK {
			goto none
		}
	}
	// What stood there in another order, twice, or as a 0, is told again by other bytes than these.
	again, e = Encode(out)
	if e != api.OK || !bytes.Equal(again, b) {
		goto none
	}
	return out, api.OK
none:
	return api.Edit{}, api.ErrEdit
}

// readAdded reads a file that comes, behind its tag.
func readAdded(b []byte, at int) (x api.Added, next int, e api.Errno) {
	f := &x.File
	at, e = readInto(b, at, number, &x.Level, &f.Number, &f.Size)
	if e != api.OK {
		goto none
	}
	at, e = readInto(b, at, codec.Text, &f.Least, &f.Limit)
	if e != api.OK {
		goto none
	}
	at, e = readInto(b, at, codec.Varint, &f.Low, &f.High)
	if e != api.OK {
		goto none
	}
	return x, at, api.OK
none:
	return api.Added{}, 0, e
}

// readInto reads one thing after another, all of one kind, and tells the place behind the last one.
func readInto[T any](b []byte, at int, read func([]byte, int) (T, int, api.Errno), fields ...*T) (next int, e api.Errno) {
	for _, field := range fields {
		*field, at, e = read(b, at)
		if e != api.OK {
			return 0, e
		}
	}
	return at, api.OK
}

// number reads a varint as an int. What no int holds becomes another number, which has other bytes or none.
func number(b []byte, at int) (v, next int, e api.Errno) {
	wide, next, e := codec.Varint(b, at)
	return int(wide), next, e
}

// appendSaid lays a number with its tag behind bytes, if it is said.
func appendSaid(b []byte, tag byte, v uint64) []byte {
	if v == 0 {
		return b
	}
	return appendNumbers(append(b, tag), v)
}

func appendNumbers(b []byte, numbers ...uint64) []byte {
	for _, v := range numbers {
		b = append(b, codec.PutVarint(nil, v)...)
	}
	return b
}
