package merge

import (
	"slices"

	"moraine/api"
	"moraine/ikey"
)

// ahead is where a list stands that stands ahead of its first entry; behind the last one it stands at their count.
const ahead = -1

// List is a source over a list. A plain List{} has no entries, as one that is nil.
type List struct {
	entries []api.Entry
	at      int
}

// NewList makes a source over entries, in their order.
func NewList(l []api.Entry) *List {
	return &List{entries: ikey.Sorted(l), at: ahead}
}

// First goes to the first one.
func (l *List) First() bool {
	return l != nil && l.stand(0)
}

// Last goes to the last one.
func (l *List) Last() bool {
	return l != nil && l.stand(len(l.entries)-1)
}

// Seek goes to the first one that is not below a key.
func (l *List) Seek(k api.IKey) bool {
	return l != nil && l.stand(l.find(k))
}

// Next goes on by one.
func (l *List) Next() bool {
	return l != nil && l.stand(min(l.at+1, len(l.entries)))
}

// Prev goes back by one.
func (l *List) Prev() bool {
	return l != nil && l.stand(max(l.at-1, ahead))
}

// Here tells where it stands.
func (l *List) Here() (api.Entry, bool) {
	if l == nil || l.at < 0 || l.at >= len(l.entries) {
		return api.Entry{}, false
	}
	return l.entries[l.at], true
}

func (l *List) stand(at int) bool {
	l.at = at
	_, there := l.Here()
	return there
}

// find tells the place of the first entry that is not below a key; of those that are alike the first one.
func (l *List) find(k api.IKey) int {
	at, _ := slices.BinarySearchFunc(l.entries, k, func(x api.Entry, k api.IKey) int {
		return ikey.Compare(keyOf(x), k)
	})
	return at
}
