package check

import "moraine/api"

// MaxRun is how many bytes a running sum may have had.
const MaxRun = 1 << 53

// Running is a sum that grows.
type Running struct {
	made   bool // tells a Running of New from a plain Running{}
	sum    uint32
	length int
}

// New begins with nothing.
func New() *Running {
	return &Running{made: true}
}

// Add puts bytes behind.
func (r *Running) Add(b []byte) api.Errno {
	return add(r, b)
}

// AddText puts a text's bytes behind.
func (r *Running) AddText(s string) api.Errno {
	return add(r, s)
}

// Join puts what another one has had behind.
func (r *Running) Join(o *Running) api.Errno {
	if r.isNone() || o.isNone() {
		return api.ErrNil
	}
	if r.isFullFor(o.length) {
		return api.ErrBig
	}
	r.sum = afterNoughts(r.sum, o.length) ^ o.sum
	r.length += o.length
	return api.OK
}

// Sum tells the sum so far.
func (r *Running) Sum() uint32 {
	if r.isNone() {
		return 0
	}
	return r.sum
}

// Masked tells it as it is kept.
func (r *Running) Masked() uint32 {
	if r.isNone() {
		return 0
	}
	return Mask(r.sum)
}

// Len tells how many bytes there were.
func (r *Running) Len() int {
	if r.isNone() {
		return 0
	}
	return r.length
}

// Clear begins anew.
func (r *Running) Clear() {
	if r.isNone() {
		return
	}
	r.sum, r.length = 0, 0
}

func (r *Running) isNone() bool {
	return r == nil || !r.made
}

func (r *Running) isFullFor(more int) bool {
	return more > MaxRun-r.length
}

func add[T []byte | string](r *Running, b T) api.Errno {
	if r.isNone() {
		return api.ErrNil
	}
	if r.isFullFor(len(b)) {
		return api.ErrBig
	}
	r.sum = extended(r.sum, b)
	r.length += len(b)
	return api.OK
}
