package table

import (
	"bytes"

	"moraine/api"
	"moraine/ikey"
	"moraine/tomb"
)

// Builder makes a table. It has a draft until the file is finished, and the file from then on; a plain Builder{} has neither.
type Builder struct {
	draft   *draft
	file    []byte
	span    api.File // of what was added so far
	entries int
	tombs   int
}

// NewBuilder makes an empty one.
func NewBuilder(s api.Shape) (*Builder, api.Errno) {
	if !isShape(s) {
		return nil, api.ErrArg
	}
	return &Builder{draft: newDraft(s)}, api.OK
}

// Add puts an entry behind the others.
func (b *Builder) Add(e api.Entry) api.Errno {
	switch {
	case b.isNone():
		return api.ErrNil
	case !isEntry(e):
		return api.ErrArg
	case b.draft == nil:
		return api.ErrDone
	case ikey.Compare(b.draft.last, keyOf(e)) >= 0:
		return api.ErrOrder
	}
	b.draft.add(keyOf(e), e.Value)
	b.widen(e.Key, ikey.After(e.Key), e.Seq)
	b.entries++
	return api.OK
}

// AddTomb puts a tomb to it.
func (b *Builder) AddTomb(t api.Tomb) api.Errno {
	switch {
	case b.isNone():
		return api.ErrNil
	case !tomb.Valid(t):
		return api.ErrArg
	case b.draft == nil:
		return api.ErrDone
	case !b.draft.addTomb(t):
		return api.ErrThere
	}
	b.widen(t.Begin, t.End, t.Seq)
	b.tombs++
	return api.OK
}

// Len tells how many entries and tombs it has.
func (b *Builder) Len() (entries, tombs int) {
	if b.isNone() {
		return 0, 0
	}
	return b.entries, b.tombs
}

// Finish tells the file's bytes, and the file without a number.
func (b *Builder) Finish() ([]byte, api.File, api.Errno) {
	if b.isNone() {
		return nil, api.File{}, api.ErrNil
	}
	if b.isEmpty() {
		return nil, api.File{}, api.ErrArg
	}
	if b.draft != nil {
		b.file, b.draft = b.draft.finish(), nil
		b.span.Size = len(b.file)
	}
	return bytes.Clone(b.file), b.span, api.OK
}

func (b *Builder) isNone() bool {
	return b == nil || b.draft == nil && b.file == nil
}

func (b *Builder) isEmpty() bool {
	return b.entries == 0 && b.tombs == 0
}

// widen takes what comes next into the span of keys and numbers.
func (b *Builder) widen(least, limit string, seq uint64) {
	if b.isEmpty() {
		b.span = api.File{Least: least, Limit: limit, Low: seq, High: seq}
		return
	}
	s := &b.span
	s.Least, s.Limit = min(s.Least, least), max(s.Limit, limit)
	s.Low, s.High = min(s.Low, seq), max(s.High, seq)
}

func isShape(s api.Shape) bool {
	return isFrom(s.Page, 16, 1048576) && isFrom(s.Restart, 1, 64) && isFrom(s.Bits, 0, 64)
}

func isFrom(v, least, most int) bool {
	return v >= least && v <= most
}

// isEntry tells whether a table may have an entry.
func isEntry(e api.Entry) bool {
	switch e.Kind {
	case api.KindPut:
		return ikey.Valid(keyOf(e)) && len(e.Value) <= api.MaxValue
	case api.KindDelete:
		return ikey.Valid(keyOf(e)) && e.Value == ""
	}
	return false
}

func keyOf(e api.Entry) api.IKey {
	return api.IKey{Key: e.Key, Seq: e.Seq, Kind: e.Kind}
}
