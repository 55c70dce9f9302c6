package table

import (
	"math"
	"slices"
	"strings"
	"testing"

	"moraine/api"
)

var small = api.Shape{Page: 16, Restart: 1}

// some are entries of both kinds, of one key several.
func some() []api.Entry {
	return []api.Entry{
		put("a", 9, "nine"), del("a", 7), put("a", 3, ""), put("ab", 1, "one"), del("abcd", 12), put("abzz", 5, "five"),
		put("b", 4, of(40)), put("b", 4-1, "w"), del("ba\xff\xff", 2), put("bb", 1<<56-1, "greatest"), put("c", 0, "nought"), del("c", 0),
	}
}

// ranges are tombs in no order.
func ranges() []api.Tomb {
	return []api.Tomb{
		{Begin: "m", End: "q", Seq: 6}, {Begin: "a", End: "ab", Seq: 2}, {Begin: "m", End: "n", Seq: 8},
		{Begin: "m", End: "z", Seq: 7}, {Begin: "\x00", End: "\x00\x00", Seq: 3}, {Begin: "ma", End: "mb", Seq: 6},
	}
}

// P13.1: shapes that are, at their bounds, and those that are none, example 2
func TestNewBuilder(t *testing.T) {
	for _, page := range []int{math.MinInt, -1, 0, 15, 16, 17, 4096, 1048575, 1048576, 1048577, math.MaxInt} {
		for _, restart := range []int{math.MinInt, -1, 0, 1, 2, 63, 64, 65, math.MaxInt} {
			for _, perKey := range []int{math.MinInt, -1, 0, 1, 10, 63, 64, 65, math.MaxInt} {
				s := api.Shape{Page: page, Restart: restart, Bits: perKey}
				ok := page >= 16 && page <= 1048576 && restart >= 1 && restart <= 64 && perKey >= 0 && perKey <= 64
				b, e := NewBuilder(s)
				if ok != (e == api.OK) || ok != (b != nil) || !ok && e != api.ErrArg {
					t.Errorf("NewBuilder(%v): error %d", s, int(e))
				}
				if ok {
					add(t, b, put("a", 1, "x"), api.OK)
					isFinished(t, b, s, []api.Entry{put("a", 1, "x")}, nil)
				}
			}
		}
	}
}

// wrongEntries are entries that may not be; each key is behind that of every other entry of these tests.
func wrongEntries() []api.Entry {
	l := []api.Entry{
		{}, put("", 1, "v"), del("", 1), put(strings.Repeat("\xff", 1025), 1, "v"), put(strings.Repeat("z", 5000), 1, ""),
		put("z", 1<<56, "v"), del("z", 1<<56), put("z", math.MaxUint64, ""), put("z", 1, of(65537)), put("z", 1, of(100000)),
		{Key: "z", Seq: 1, Value: "x"}, {Key: "z", Seq: 1, Value: "\x00"}, {Key: "z", Seq: 1, Value: of(65537)},
	}
	for _, kind := range []int{math.MinInt, -1, api.KindRange, 3, 254, api.KindSeek, 256, 257, math.MaxInt} {
		l = append(l, api.Entry{Key: "z", Seq: 1, Kind: kind}, api.Entry{Key: "z", Seq: 1, Kind: kind, Value: "v"})
	}
	return l
}

// wrongTombs are tombs that are not valid.
func wrongTombs() []api.Tomb {
	return []api.Tomb{
		{}, {End: "b", Seq: 1}, {Begin: "b", Seq: 1}, {Begin: "b", End: "b", Seq: 1}, {Begin: "b", End: "a", Seq: 1},
		{Begin: of(1025), End: "z", Seq: 1}, {Begin: "a", End: of(1026), Seq: 1}, {Begin: "a", End: "b", Seq: 1 << 56}, {Begin: "a", End: "b", Seq: math.MaxUint64},
	}
}

// P13.1: Add refuses ahead of any entry and behind some; nothing has changed by it.
func TestAddArg(t *testing.T) {
	for _, l := range [][]api.Entry{nil, some()} {
		b := builder(t, small, l, nil)
		for _, x := range wrongEntries() {
			add(t, b, x, api.ErrArg)
			hasLen(t, b, len(l), 0)
		}
		more := []api.Entry{put(of(1024), 1<<56-1, of(65536)), del(of(1024), 1<<56-1), del(of(1024), 0), put("z", 0, ""), del("z", 0)}
		for i, x := range more {
			add(t, b, x, api.OK)
			hasLen(t, b, len(l)+i+1, 0)
		}
		isFinished(t, b, small, append(slices.Clone(l), more...), nil)
	}
}

// P13.1: what is not behind the last one, by key, number and kind, within a block and behind a full one; ErrArg comes ahead.
func TestAddOrder(t *testing.T) {
	for _, page := range []int{16, 4096} {
		s := api.Shape{Page: page, Restart: 2}
		l := []api.Entry{put("b", 9, "v"), put("m", 5, "w")}
		b := builder(t, s, l, nil)
		for _, x := range []api.Entry{
			put("m", 5, "w"), put("m", 5, "other"), put("m", 6, ""), del("m", 6), put("m", 1<<56-1, ""), put("l", 1, ""), put("b", 9, "v"), put("b", 8, ""),
			del("b", 8), put("a", 1, ""), put("\x00", 1, ""), put("lz", 5, ""),
		} {
			add(t, b, x, api.ErrOrder)
			x.Kind = api.KindRange
			add(t, b, x, api.ErrArg)
			x.Kind, x.Value = api.KindPut, of(65537)
			add(t, b, x, api.ErrArg)
		}
		for _, x := range []api.Entry{del("m", 5), put("m", 4, "older"), put("m\x00", 9, "next")} {
			add(t, b, x, api.OK)
			l = append(l, x)
			add(t, b, x, api.ErrOrder)
		}
		isFinished(t, b, s, l, nil)
	}
}

// P13.1: tombs come in any order, and do not meddle with the entries' order.
func TestAddTombAnyOrder(t *testing.T) {
	l, tombs := some(), ranges()
	for turn := range len(tombs) {
		b := builder(t, small, nil, nil)
		for i, x := range l {
			add(t, b, x, api.OK)
			if i < len(tombs) {
				addTomb(t, b, tombs[(i+turn)%len(tombs)], api.OK)
				hasLen(t, b, i+1, i+1)
			}
		}
		isFinished(t, b, small, l, tombs)
		slices.Reverse(tombs)
	}
}

// P13.1: tombs that are not valid, and those that are at their bounds.
func TestAddTombArg(t *testing.T) {
	b := builder(t, small, nil, nil)
	for _, x := range wrongTombs() {
		addTomb(t, b, x, api.ErrArg)
		hasLen(t, b, 0, 0)
	}
	tombs := []api.Tomb{
		{Begin: of(1024), End: of(1024) + "\x00", Seq: 1<<56 - 1}, {Begin: "a", End: of(1025), Seq: 0}, {Begin: "\x00", End: "\x00\x00", Seq: 1},
	}
	for _, x := range tombs {
		addTomb(t, b, x, api.OK)
	}
	for _, x := range wrongTombs() {
		addTomb(t, b, x, api.ErrArg)
	}
	isFinished(t, b, small, nil, tombs)
}

// P13.1: one Begin with one number is there once, whatever its End; with another number it is another one. ErrArg comes ahead.
func TestAddTombThere(t *testing.T) {
	tombs := ranges()
	b := builder(t, small, nil, tombs)
	for _, x := range tombs {
		for _, end := range []string{x.End, x.Begin + "\x00", "zz"} {
			addTomb(t, b, api.Tomb{Begin: x.Begin, End: end, Seq: x.Seq}, api.ErrThere)
		}
		addTomb(t, b, api.Tomb{Begin: x.Begin, End: x.Begin, Seq: x.Seq}, api.ErrArg)
		hasLen(t, b, 0, len(ranges()))
	}
	more := []api.Tomb{{Begin: "m", End: "q", Seq: 5}, {Begin: "m", End: "q", Seq: 9}, {Begin: "mm", End: "q", Seq: 6}, {Begin: "m\x00", End: "q", Seq: 6}}
	for _, x := range more {
		addTomb(t, b, x, api.OK)
		addTomb(t, b, x, api.ErrThere)
	}
	isFinished(t, b, small, nil, append(tombs, more...))
}

// P13.1: an entry and a tomb of one key and number are two things.
func TestTombAtAnEntry(t *testing.T) {
	l := []api.Entry{put("a", 5, "v"), del("a", 4)}
	tombs := []api.Tomb{{Begin: "a", End: "b", Seq: 4}, {Begin: "a", End: "c", Seq: 5}}
	isFinished(t, builder(t, small, l, tombs), small, l, tombs)
}

// P13.1: behind Finish nothing is taken: ErrArg comes ahead of ErrDone, ErrDone ahead of ErrOrder and ErrThere.
func TestAddBehindFinish(t *testing.T) {
	l, tombs := some(), ranges()
	for _, s := range []api.Shape{small, {Page: 4096, Restart: 3, Bits: 10}} {
		b := builder(t, s, l, tombs)
		isFinished(t, b, s, l, tombs)
		for _, x := range append([]api.Entry{put("z", 1, "v"), del("z", 1)}, l...) {
			add(t, b, x, api.ErrDone)
		}
		for _, x := range append([]api.Tomb{{Begin: "z", End: "zz", Seq: 1}}, tombs...) {
			addTomb(t, b, x, api.ErrDone)
		}
		for _, x := range wrongEntries() {
			add(t, b, x, api.ErrArg)
		}
		for _, x := range wrongTombs() {
			addTomb(t, b, x, api.ErrArg)
		}
		isFinished(t, b, s, l, tombs)
	}
}

// P13.1: a Finish with an error ends nothing.
func TestAddBehindFinishOfNothing(t *testing.T) {
	b := builder(t, small, nil, nil)
	for range 2 {
		finishOfNothing(t, b)
	}
	add(t, b, put("a", 1, "x"), api.OK)
	addTomb(t, b, api.Tomb{Begin: "a", End: "b", Seq: 2}, api.OK)
	isFinished(t, b, small, []api.Entry{put("a", 1, "x")}, []api.Tomb{{Begin: "a", End: "b", Seq: 2}})
}

func finishOfNothing(t *testing.T, b *Builder) {
	t.Helper()
	if file, f, e := b.Finish(); len(file) != 0 || f != (api.File{}) || e != api.ErrArg {
		t.Errorf("Finish of nothing: %x, %v, error %d", file, f, int(e))
	}
	hasLen(t, b, 0, 0)
}

// Rule 4: two builders have nothing in common.
func TestBuildersApart(t *testing.T) {
	l, tombs := some(), ranges()
	one, two := builder(t, small, l[:5], tombs[:2]), builder(t, small, l[:2], tombs[:4])
	add(t, two, l[2], api.OK)
	add(t, one, l[5], api.OK)
	addTomb(t, one, tombs[2], api.OK)
	isFinished(t, one, small, l[:6], tombs[:3])
	add(t, two, l[3], api.OK)
	addTomb(t, two, tombs[4], api.OK)
	isFinished(t, two, small, l[:4], tombs[:5])
	isFinished(t, one, small, l[:6], tombs[:3])
}

// Rule 1
func TestNoBuilder(t *testing.T) {
	var none *Builder
	for _, b := range []*Builder{none, {}} {
		for range 2 {
			add(t, b, put("a", 1, "v"), api.ErrNil)
			add(t, b, api.Entry{}, api.ErrNil)
			addTomb(t, b, api.Tomb{Begin: "a", End: "b", Seq: 1}, api.ErrNil)
			addTomb(t, b, api.Tomb{}, api.ErrNil)
			hasLen(t, b, 0, 0)
			if file, f, e := b.Finish(); len(file) != 0 || f != (api.File{}) || e != api.ErrNil {
				t.Errorf("Finish of no builder: %x, %v, error %d", file, f, int(e))
			}
		}
	}
}

// What is kept is no more than needed: a draft without bits keeps no keys, and none is kept behind Finish.
func TestKept(t *testing.T) {
	b := builder(t, small, some(), ranges())
	if len(b.draft.keys) != 0 {
		t.Error("keys that no filter needs")
	}
	b.Finish()
	if b.draft != nil {
		t.Error("a draft behind Finish")
	}
}
