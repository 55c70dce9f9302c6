package view

import (
	"math"

	"moraine/api"
	"moraine/merge"
)

// way is one of the two directions of the walk.
type way struct {
	from, to place                          // the ends between which it leads
	enter    func(v *View)                  // puts the merged cursor to the entry at which this way begins
	step     func(m *merge.Merged) bool     // moves it by one
	isBeyond func(v *View, key string) bool // tells of a key whether it lies this way of the one at which the view stands
	isLast   bool                           // of a key's entries that count the first one in their order is met last
}

// The places of the two ways in their table.
const (
	onward = iota
	back
)

func ways() [2]way {
	return [...]way{
		onward: {from: ahead, to: behind, enter: (*View).toLeast, step: (*merge.Merged).Next, isBeyond: (*View).isBelow},
		back:   {from: behind, to: ahead, enter: (*View).toLimit, step: (*merge.Merged).Prev, isBeyond: (*View).isAbove, isLast: true},
	}
}

// start goes to the key at which a way begins.
func (v *View) start(w way) bool {
	w.enter(v)
	return v.find(w)
}

// walk goes by one.
func (v *View) walk(w way) bool {
	switch v.at {
	case w.from:
		return v.start(w)
	case w.to:
		return false
	}
	v.leave(w)
	return v.find(w)
}

// leave has the merged cursor beyond the key at which the view stands: there it is, but for a turn about, when it comes over that key's entries again.
func (v *View) leave(w way) {
	x, there := v.merged.Here()
	for !there || !w.isBeyond(v, x.Key) {
		if !w.step(v.merged) {
			return
		}
		x, there = v.merged.Here()
	}
}

// find goes to the first key that is seen, from the entry on at which the merged cursor stands.
func (v *View) find(w way) bool {
	for {
		x, there := v.merged.Here()
		if !there || !v.isBetween(x.Key) {
			v.at, v.here = w.to, api.Entry{}
			return false
		}
		if newest, found := v.pass(w, x.Key); found && v.isSeen(newest) {
			v.at, v.here = within, newest
			return true
		}
	}
}

// pass goes over all entries of a key, and tells the first one in their order that counts.
func (v *View) pass(w way, key string) (newest api.Entry, found bool) {
	for x, there := v.merged.Here(); there && x.Key == key; x, there = v.merged.Here() {
		if x.Seq <= v.seq && (w.isLast || !found) {
			newest, found = x, true
		}
		w.step(v.merged)
	}
	return newest, found
}

// isSeen tells whether the first one of a key's entries that count has the key seen.
func (v *View) isSeen(x api.Entry) bool {
	if x.Kind != api.KindPut {
		return false
	}
	// Where no tomb covers the key the number is 0, which is above none.
	covered, _ := v.tombs.Cover(x.Key, v.seq)
	return covered <= x.Seq
}

func (v *View) isBetween(key string) bool {
	return v.least <= key && (v.limit == "" || key < v.limit)
}

// isBelow tells whether the view stands at a key below another.
func (v *View) isBelow(key string) bool {
	return v.here.Key < key
}

// isAbove tells whether the view stands at a key above another.
func (v *View) isAbove(key string) bool {
	return v.here.Key > key
}

// toLeast puts the merged cursor to the first entry between the bounds.
func (v *View) toLeast() {
	v.toKey(v.least)
}

// toLimit puts the merged cursor to the last entry ahead of limit.
func (v *View) toLimit() {
	if v.limit == "" {
		v.merged.Last()
		return
	}
	v.merged.Seek(firstOf(v.limit, math.MaxUint64))
	v.merged.Prev()
}

// toKey puts the merged cursor to the first entry that counts of a key, else of those behind it.
func (v *View) toKey(key string) {
	v.merged.Seek(firstOf(key, v.seq))
}

// firstOf tells the first one of a key's internal keys with numbers of at most seq: of all that there are, valid or not, so that entries that are not valid are not passed over.
func firstOf(key string, seq uint64) api.IKey {
	return api.IKey{Key: key, Seq: seq, Kind: math.MaxInt}
}
