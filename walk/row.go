package walk

import (
	"slices"

	"moraine/api"
	"moraine/table"
)

// Row goes through tables that stand one behind the other. A plain Row{} is as one that is nil.
type Row struct {
	tables chain
}

// NewRow begins ahead of all entries; the tables' keys rise from one to the next.
func NewRow(l []*table.Table) *Row {
	tables := slices.DeleteFunc(slices.Clone(l), isNone)
	open := func(i int) link { return New(tables[i]) }
	return &Row{tables: newChain(len(tables), open)}
}

// First goes to the first one.
func (r *Row) First() bool {
	return !r.isNone() && r.tables.first()
}

// Last goes to the last one.
func (r *Row) Last() bool {
	return !r.isNone() && r.tables.last()
}

// Seek goes to the first one that is not below a key.
func (r *Row) Seek(k api.IKey) bool {
	// A table whose keys are all below k looks at no block, so that all of them may be asked.
	return !r.isNone() && r.tables.goUp(0, func(_ int, t link) bool { return t.Seek(k) })
}

// Next goes on by one.
func (r *Row) Next() bool {
	return !r.isNone() && r.tables.next()
}

// Prev goes back by one.
func (r *Row) Prev() bool {
	return !r.isNone() && r.tables.prev()
}

// Here tells where it stands.
func (r *Row) Here() (api.Entry, bool) {
	if r.isNone() {
		return api.Entry{}, false
	}
	return r.tables.entry()
}

// Err tells why it could not go on.
func (r *Row) Err() api.Errno {
	if r.isNone() {
		return api.ErrNil
	}
	return r.tables.err
}

func (r *Row) isNone() bool {
	return r == nil || r.tables.open == nil
}
