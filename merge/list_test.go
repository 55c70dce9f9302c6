package merge

import (
	"math"
	"math/rand"
	"slices"
	"testing"

	"moraine/api"
)

// P19.1: each of the five calls from each place, along all ways of four calls.
func TestListWays(t *testing.T) {
	for name, l := range lists() {
		for _, x := range marked(l...) {
			fresh := func() (Source, *plain) { return NewList(x), newPlain(x) }
			walked(t, name, append(calls(), seek1(at("b", 2)), seek1(at("a", 2))), 4, fresh)
		}
	}
}

// manyKinds are entries with odd numbers and kinds, in no order, many of them twice.
func manyKinds() []api.Entry {
	var l []api.Entry
	for i, k := range oddKeys() {
		x := api.Entry{Key: k.Key, Seq: k.Seq, Kind: k.Kind}
		if i%5 == 0 {
			l = append(l, x)
		}
		if i%15 == 0 {
			l = append(l, x)
		}
	}
	chance := rand.New(rand.NewSource(191))
	chance.Shuffle(len(l), func(i, j int) { l[i], l[j] = l[j], l[i] })
	return marked(l)[0]
}

// P19.1: Seek of keys below, at, between and above all.
func TestListSeeks(t *testing.T) {
	for name, l := range lists() {
		for _, x := range marked(l...) {
			sought(t, name, someKeys(), NewList(x), newPlain(x))
		}
	}
	l, p := NewList(manyKinds()), newPlain(manyKinds())
	for _, k := range oddKeys() {
		moved(t, seek1(k).name, seek1(k), l, p)
	}
}

// P19.1: of the key it is the number, of the number the kind that tells where Seek comes to; of those that are alike the first one.
func TestListSeekOrder(t *testing.T) {
	kinds := func(kind int) api.Entry { return api.Entry{Key: "b", Seq: 5, Kind: kind} }
	x := marked([]api.Entry{put("b", 9), kinds(2), kinds(1), kinds(1), kinds(0), put("b", 1), put("c", 7)})[0]
	given := []api.Entry{x[4], x[6], x[2], x[0], x[3], x[5], x[1]}
	l := NewList(given)
	for _, c := range []struct {
		key  string
		seq  uint64
		kind int
		want int // 7: behind
	}{
		{"", 0, 0, 0}, {"a", 0, math.MinInt, 0}, {"b", 10, 1, 0}, {"b", 9, 2, 0}, {"b", 9, 1, 0}, {"b", 9, 0, 1}, {"b", 6, 1, 1}, {"b", 5, 255, 1}, {"b", 5, 2, 1},
		{"b", 5, 1, 2}, {"b", 5, 0, 4}, {"b", 5, -1, 5}, {"b", 4, 255, 5}, {"b", 1, 0, 6}, {"b", 0, 255, 6}, {"b\x00", 99, 1, 6}, {"c", 7, 1, 6}, {"c", 7, 0, 7}, {"d", math.MaxUint64, math.MaxInt, 7},
	} {
		ok := l.Seek(api.IKey{Key: c.key, Seq: c.seq, Kind: c.kind})
		got, there := l.Here()
		if c.want == len(x) {
			if ok || there || got != (api.Entry{}) || !l.Prev() {
				t.Errorf("Seek(%+v): %v, at %s", c, ok, brief(got))
			}
			continue
		}
		if !ok || !there || got != x[c.want] {
			t.Errorf("Seek(%+v): %v, at %s", c, ok, brief(got))
		}
	}
}

// P19.1, P19.4: lists told both ways.
func TestListBothWays(t *testing.T) {
	for name, l := range lists() {
		for _, x := range marked(l...) {
			bothWays(t, name, NewList(x), newPlain(x).entries())
		}
	}
	bothWays(t, "many kinds", NewList(manyKinds()), newPlain(manyKinds()).entries())
}

// roomy tells the same list with spare room that is not empty, and a call that tells whether all of it is as it was.
func roomy(l []api.Entry) ([]api.Entry, func() bool) {
	all := make([]api.Entry, len(l)+3)
	copy(all, l)
	for i := range all[len(l):] {
		all[len(l)+i] = api.Entry{Key: "a", Seq: uint64(i), Kind: api.KindPut, Value: "spare"}
	}
	was := slices.Clone(all)
	return all[:len(l)], func() bool { return slices.Equal(all, was) }
}

// spoil changes a list, its spare room too.
func spoil(l []api.Entry) {
	for i := range l[:cap(l)] {
		l[:cap(l)][i] = api.Entry{Key: "0", Seq: 77, Value: "spoilt"}
	}
}

// P19.1, rules 4 and 8: the entries are those that were there at NewList; the list stays as it was, and may change behind it.
func TestListKeepsNothing(t *testing.T) {
	for name, l := range lists() {
		for _, x := range marked(l...) {
			given, stays := roomy(x)
			c := NewList(given)
			bothWays(t, name, c, newPlain(x).entries())
			c.Seek(at("b", 2))
			if !stays() {
				t.Errorf("%s: the list has changed", name)
			}
			here, ok := c.Here()
			spoil(given)
			if again, is := c.Here(); again != here || is != ok {
				t.Errorf("%s: the list was spoilt: at %s, not %s", name, brief(again), brief(here))
			}
			bothWays(t, name+", spoilt", c, newPlain(x).entries())
		}
	}
}

// P19.1, rule 1: lists of nothing, a nil one and one that no call gave.
func TestNoList(t *testing.T) {
	for _, l := range []*List{nil, {}, new(List), NewList(nil), NewList([]api.Entry{}), NewList(manyKinds()[:0])} {
		for _, c := range append(calls(), seek1(at("a", 1)), seek1(api.IKey{})) {
			for range 3 {
				moved(t, c.name, c, l, newPlain())
			}
		}
	}
	if NewList(nil) == nil {
		t.Error("no list of no entries")
	}
}

// P19.1: lists are apart.
func TestListsApart(t *testing.T) {
	x := marked([]api.Entry{put("a", 1), put("b", 1), put("c", 1)})[0]
	one, two := NewList(x), NewList(x)
	first, second := newPlain(x), newPlain(x)
	for _, c := range []call{calls()[0], calls()[2], calls()[3], calls()[1], calls()[3]} {
		moved(t, "one "+c.name, c, one, first)
		same(t, "two stays", two, second)
	}
	moved(t, "two Last", calls()[1], two, second)
	same(t, "one stays", one, first)
}
