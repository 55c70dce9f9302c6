package mem

import "moraine/api"

// Queue is an active memtable and frozen ones.
type Queue struct {
	*Table           // the active one; nil in a plain Queue{} alone, which by that is told from one that NewQueue gave
	waiting []*Table // the frozen ones, the one that has been frozen longest first
}

// NewQueue begins with an empty active one.
func NewQueue(log int) *Queue {
	return &Queue{Table: New(log)}
}

// Active tells the one that is written to.
func (q *Queue) Active() *Table {
	if q.isNone() {
		return nil
	}
	return q.Table
}

// Freeze freezes the active one, and begins another.
func (q *Queue) Freeze(log int) api.Errno {
	if q.isNone() {
		return api.ErrNil
	}
	if log <= q.Log() {
		return api.ErrArg
	}
	q.done = true
	q.waiting = append(q.waiting, q.Table)
	q.Table = New(log)
	return api.OK
}

// Oldest tells the oldest frozen one.
func (q *Queue) Oldest() (*Table, bool) {
	if q.Frozen() == 0 {
		return nil, false
	}
	return q.waiting[0], true
}

// Drop takes the oldest frozen one away.
func (q *Queue) Drop() api.Errno {
	if q.isNone() {
		return api.ErrNil
	}
	if len(q.waiting) == 0 {
		return api.ErrArg
	}
	// Its place in memory outlives the cut: what was dropped is not kept there.
	q.waiting[0] = nil
	q.waiting = q.waiting[1:]
	return api.OK
}

// Frozen tells how many are frozen.
func (q *Queue) Frozen() int {
	if q.isNone() {
		return 0
	}
	return len(q.waiting)
}

// Tables tells all, the newest first.
func (q *Queue) Tables() []*Table {
	if q.isNone() {
		return nil
	}
	out := make([]*Table, 0, 1+len(q.waiting))
	out = append(out, q.Table)
	for i := len(q.waiting) - 1; i >= 0; i-- {
		out = append(out, q.waiting[i])
	}
	return out
}

// Get tells the newest entry of a key in all of them.
func (q *Queue) Get(key string, seq uint64) (api.Entry, bool) {
	return find(key, seq, q.Tables()...)
}

// isNone is the queue's own: that of its memtable can't be asked through a nil queue.
func (q *Queue) isNone() bool {
	return q == nil || q.Table.isNone()
}
