package merge

import (
	"cmp"

	"moraine/api"
	"moraine/ikey"
)

// head is the entry at which a source stands, tagged with the source's number.
type head struct {
	from  int
	entry api.Entry
}

// heads is a heap of those sources' heads that stand at an entry.
type heads struct {
	list []head
	back bool // the last one of all is at the top, not the first one
}

func (h *heads) isEmpty() bool {
	return len(h.list) == 0
}

func (h *heads) top() head {
	return h.list[0]
}

// fill puts other heads in place of all that there are.
func (h *heads) fill(list []head, back bool) {
	h.list, h.back = list, back
	for i := len(list)/2 - 1; i >= 0; i-- {
		h.sink(i)
	}
}

// replace puts the entry to which the top's source has come in place of the top's.
func (h *heads) replace(x api.Entry) {
	h.list[0].entry = x
	h.sink(0)
}

// drop takes the top out.
func (h *heads) drop() {
	last := len(h.list) - 1
	h.list[0] = h.list[last]
	// What lies behind the list would be kept without need.
	h.list[last] = head{}
	h.list = h.list[:last]
	h.sink(0)
}

// sink lets the head at a place go down below those that are nearer to the top.
func (h *heads) sink(i int) {
	for {
		top := i
		for _, below := range [2]int{2*i + 1, 2*i + 2} {
			if below < len(h.list) && h.isAbove(below, top) {
				top = below
			}
		}
		if top == i {
			return
		}
		h.list[i], h.list[top] = h.list[top], h.list[i]
		i = top
	}
}

// isAbove tells whether the head at one place is nearer to the top than the one at another.
func (h *heads) isAbove(i, j int) bool {
	order := compare(h.list[i], h.list[j])
	if h.back {
		return order > 0
	}
	return order < 0
}

// compare tells the order of two heads; those that are alike stand by their sources' numbers.
func compare(a, b head) int {
	if order := ikey.Compare(keyOf(a.entry), keyOf(b.entry)); order != 0 {
		return order
	}
	return cmp.Compare(a.from, b.from)
}
