package skip

import (
	"iter"

	"moraine/api"
	"moraine/ikey"
)

// Get tells what belongs to a key.
func (l *List[V]) Get(k api.IKey) (V, bool) {
	n, same := l.find(k)
	if !same {
		var none V
		return none, false
	}
	return l.nodes[n].value, true
}

// Seek tells the first node that is not below a key.
func (l *List[V]) Seek(k api.IKey) int {
	n, _ := l.find(k)
	return n
}

// Before tells the last node below a key.
func (l *List[V]) Before(k api.IKey) int {
	return int(l.trail(k)[0])
}

// First tells the first node.
func (l *List[V]) First() int {
	if l.isNone() {
		return 0
	}
	return l.next(0, 0)
}

// Last tells the last one.
func (l *List[V]) Last() int {
	last := 0
	for level := l.Height() - 1; level >= 0; level-- {
		for n := l.next(last, level); n != 0; n = l.next(n, level) {
			last = n
		}
	}
	return last
}

// Next tells the one behind.
func (l *List[V]) Next(n int) int {
	if !l.has(n) {
		return 0
	}
	return l.next(n, 0)
}

// Prev tells the one ahead.
func (l *List[V]) Prev(n int) int {
	if !l.has(n) {
		return 0
	}
	return l.Before(l.nodes[n].key)
}

// Node tells a node's key and what belongs to it.
func (l *List[V]) Node(n int) (api.IKey, V, bool) {
	if !l.has(n) {
		var none V
		return api.IKey{}, none, false
	}
	return l.nodes[n].key, l.nodes[n].value, true
}

// Links tells the nodes whose towers reach a level, in their order.
func (l *List[V]) Links(level int) []int {
	if level < 0 || level >= l.Height() {
		return nil
	}
	var links []int
	for n := l.next(0, level); n != 0; n = l.next(n, level) {
		links = append(links, n)
	}
	return links
}

// Trail tells for each level, the highest first, the last node below a key; 0: none.
func (l *List[V]) Trail(k api.IKey) []int {
	var told []int
	trail := l.trail(k)
	for level := l.Height() - 1; level >= 0; level-- {
		told = append(told, int(trail[level]))
	}
	return told
}

// All goes through the nodes.
func (l *List[V]) All() iter.Seq2[int, api.IKey] {
	last := l.Len()
	return func(yield func(int, api.IKey) bool) {
		for n := l.First(); n != 0; n = l.Next(n) {
			// Those that came behind the call have greater numbers than all that were there.
			if n <= last && !yield(n, l.nodes[n].key) {
				return
			}
		}
	}
}

// next tells the node behind one in a level; of 0 the first one there.
func (l *List[V]) next(n, level int) int {
	return int(l.nodes[n].next[level])
}

// find tells the first node that is not below a key, and whether its key is the same.
func (l *List[V]) find(k api.IKey) (n int, same bool) {
	ahead := 0
down:
	for level := l.Height() - 1; level >= 0; level-- {
		for n = l.next(ahead, level); n != 0; n = l.next(n, level) {
			order := ikey.Compare(l.nodes[n].key, k)
			if order == 0 {
				// The levels below have nothing between that could come first.
				same = true
				break down
			}
			if order > 0 {
				continue down
			}
			ahead = n
		}
	}
	return n, same
}

// trail has for each level the last node there that is below a key; 0, the place ahead of all, where there is none.
func (l *List[V]) trail(k api.IKey) tower {
	var trail tower
	ahead := 0
	for level := l.Height() - 1; level >= 0; level-- {
		for n := l.next(ahead, level); n != 0 && ikey.Compare(l.nodes[n].key, k) < 0; n = l.next(n, level) {
			ahead = n
		}
		trail[level] = int32(ahead)
	}
	return trail
}
