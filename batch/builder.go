package batch

import "moraine/api"

// Builder gathers operations.
type Builder struct {
	made bool // tells a Builder of New from a plain Builder{}
	ops  []api.Op
	size int // of their batch, so that each new one is weighed without going through the others
}

// New begins with nothing.
func New() *Builder {
	return &Builder{made: true, size: headSize}
}

// Put puts an operation that gives a key a value behind the others.
func (b *Builder) Put(key, value string) api.Errno {
	return b.add(api.Op{Kind: api.KindPut, Key: key, Value: value})
}

// Delete puts a deletion behind.
func (b *Builder) Delete(key string) api.Errno {
	return b.add(api.Op{Kind: api.KindDelete, Key: key})
}

// Range puts a deletion of the keys from begin up to end behind.
func (b *Builder) Range(begin, end string) api.Errno {
	return b.add(api.Op{Kind: api.KindRange, Key: begin, Value: end})
}

// Len tells how many there are.
func (b *Builder) Len() int {
	if b.isNone() {
		return 0
	}
	return len(b.ops)
}

// Size tells how many bytes the batch would have.
func (b *Builder) Size() int {
	if b.isNone() {
		return 0
	}
	return b.size
}

// Bytes tells the batch.
func (b *Builder) Bytes(seq uint64) ([]byte, api.Errno) {
	if b.isNone() {
		return nil, api.ErrNil
	}
	return Encode(seq, b.ops)
}

// Clear begins anew.
func (b *Builder) Clear() {
	if b.isNone() {
		return
	}
	b.ops, b.size = nil, headSize
}

func (b *Builder) add(o api.Op) api.Errno {
	if b.isNone() {
		return api.ErrNil
	}
	if !mayBe(o) {
		return api.ErrOp
	}
	size := b.size + opSize(o)
	if len(b.ops) == api.MaxOps || size > api.MaxBatch {
		return api.ErrBig
	}
	b.ops, b.size = append(b.ops, o), size
	return api.OK
}

func (b *Builder) isNone() bool {
	return b == nil || !b.made
}
