package merge

import (
	"fmt"
	"math"
	"slices"
	"strconv"
	"testing"

	"moraine/api"
)

// What the chapter says, word by word and without the package's own functions: the tests hold the package against it.

// brief tells the beginning of anything.
func brief(x any) string {
	s := fmt.Sprintf("%+v", x)
	return s[:min(len(s), 300)]
}

func put(key string, seq uint64) api.Entry {
	return api.Entry{Key: key, Seq: seq, Kind: api.KindPut, Value: key + " of " + strconv.FormatUint(seq, 10)}
}

func del(key string, seq uint64) api.Entry { return api.Entry{Key: key, Seq: seq} }

func at(key string, seq uint64) api.IKey { return api.IKey{Key: key, Seq: seq, Kind: api.KindPut} }

// marked tells the same entries, each with a value that no other one has: its list's number, its place there.
func marked(lists ...[]api.Entry) [][]api.Entry {
	var out [][]api.Entry
	for i, l := range lists {
		l = slices.Clone(l)
		for n := range l {
			l[n].Value = fmt.Sprint(i, " ", n)
		}
		out = append(out, l)
	}
	return out
}

// plainBelow tells whether one key is ahead of another.
func plainBelow(a, b api.IKey) bool {
	switch {
	case a.Key != b.Key:
		return a.Key < b.Key
	case a.Seq != b.Seq:
		return a.Seq > b.Seq
	}
	return a.Kind > b.Kind
}

func key(x api.Entry) api.IKey { return api.IKey{Key: x.Key, Seq: x.Seq, Kind: x.Kind} }

// item is an entry with the number of its source.
type item struct {
	entry api.Entry
	from  int
}

// plain goes through items; it stands ahead at -1, behind behind the last one.
type plain struct {
	items []item
	at    int
}

// newPlain lays list after list in, each entry behind all those that it is not ahead of.
func newPlain(lists ...[]api.Entry) *plain {
	p := &plain{at: -1}
	for from, l := range lists {
		for _, x := range l {
			i := len(p.items)
			for i > 0 && plainBelow(key(x), key(p.items[i-1].entry)) {
				i--
			}
			p.items = slices.Insert(p.items, i, item{x, from})
		}
	}
	return p
}

func (p *plain) entries() []api.Entry {
	var l []api.Entry
	for _, x := range p.items {
		l = append(l, x.entry)
	}
	return l
}

func (p *plain) isAtOne() bool { return p.at >= 0 && p.at < len(p.items) }

func (p *plain) stand(at int) bool {
	p.at = at
	return p.isAtOne()
}

func (p *plain) First() bool { return p.stand(0) }

func (p *plain) Last() bool { return p.stand(len(p.items) - 1) }

func (p *plain) Seek(k api.IKey) bool {
	for i, x := range p.items {
		if !plainBelow(key(x.entry), k) {
			return p.stand(i)
		}
	}
	return p.stand(len(p.items))
}

func (p *plain) Next() bool { return p.stand(min(p.at+1, len(p.items))) }

func (p *plain) Prev() bool { return p.stand(max(p.at-1, -1)) }

func (p *plain) Here() (api.Entry, bool) {
	if !p.isAtOne() {
		return api.Entry{}, false
	}
	return p.items[p.at].entry, true
}

func (p *plain) From() int {
	if !p.isAtOne() {
		return -1
	}
	return p.items[p.at].from
}

// call is one of the five that move a cursor.
type call struct {
	name string
	of   func(s Source) bool
}

func seek1(k api.IKey) call {
	return call{fmt.Sprintf("Seek(%+v)", k), func(s Source) bool { return s.Seek(k) }}
}

// calls are the four others.
func calls() []call {
	return []call{{"First", Source.First}, {"Last", Source.Last}, {"Next", Source.Next}, {"Prev", Source.Prev}}
}

// same holds where two cursors stand against each other; Here and From, asked twice, tell the same.
func same(t *testing.T, what string, got Source, want *plain) {
	t.Helper()
	x, is := want.Here()
	for range 2 {
		if e, ok := got.Here(); e != x || ok != is {
			t.Fatalf("%s: at %s (%v), want %s (%v)", what, brief(e), ok, brief(x), is)
		}
		if m, ok := got.(*Merged); ok && m.From() != want.From() {
			t.Fatalf("%s: at %s, from %d, want %d", what, brief(x), m.From(), want.From())
		}
	}
}

// moved holds a call's answer, and what comes of it.
func moved(t *testing.T, what string, c call, got Source, want *plain) {
	t.Helper()
	a, b := c.of(got), c.of(want)
	if a != b {
		t.Fatalf("%s: %v, want %v", what, a, b)
	}
	same(t, what, got, want)
}

// walked holds new cursors against plain ones along every way of so many calls.
func walked(t *testing.T, what string, l []call, deep int, fresh func() (Source, *plain)) {
	t.Helper()
	var way []call
	var on func()
	on = func() {
		if len(way) == deep {
			got, want := fresh()
			same(t, what+" new", got, want)
			path := what
			for _, c := range way {
				path += " " + c.name
				moved(t, path, c, got, want)
			}
			return
		}
		for _, c := range l {
			way = append(way, c)
			on()
			way = way[:len(way)-1]
		}
	}
	on()
}

// sought holds Seek of each key against the chapter's words, from wherever it stands, and what each call behind it tells.
func sought(t *testing.T, what string, keys []api.IKey, got Source, want *plain) {
	t.Helper()
	for _, k := range keys {
		for _, c := range calls() {
			moved(t, what+" "+c.name, c, got, want)
			moved(t, what+" "+seek1(k).name+" behind "+c.name, seek1(k), got, want)
			moved(t, what+" "+c.name+" behind "+seek1(k).name, c, got, want)
			moved(t, what+" "+seek1(k).name+" again", seek1(k), got, want)
			for range len(want.items) + 2 {
				moved(t, what+" "+seek1(k).name+" and "+c.name+" on", c, got, want)
			}
		}
	}
}

// bothWays goes through a cursor's entries from either end, turns about at each one, and goes over each two back and forth.
func bothWays(t *testing.T, what string, s Source, l []api.Entry) {
	t.Helper()
	var up, down []api.Entry
	for ok := s.First(); ok && len(up) <= len(l); ok = s.Next() {
		x, _ := s.Here()
		up = append(up, x)
	}
	for ok := s.Last(); ok && len(down) <= len(l); ok = s.Prev() {
		x, _ := s.Here()
		down = append(down, x)
	}
	slices.Reverse(down)
	if !slices.Equal(up, l) || !slices.Equal(down, l) {
		t.Fatalf("%s: %s and %s, want %s", what, brief(up), brief(down), brief(l))
	}
	for _, start := range []call{calls()[0], calls()[1]} {
		on, back, i, step := Source.Next, Source.Prev, 0, 1
		if start.name == "Last" {
			on, back, i, step = Source.Prev, Source.Next, len(l)-1, -1
		}
		start.of(s)
		for ; i >= 0 && i < len(l); i += step {
			is := func(i int) bool {
				x, ok := s.Here()
				return ok && x == l[i]
			}
			if !is(i) {
				t.Fatalf("%s: %s on is not at %d", what, start.name, i)
			}
			if next := i + step; next >= 0 && next < len(l) && !(on(s) && is(next) && back(s) && is(i) && on(s) && is(next) && back(s) && is(i)) {
				t.Fatalf("%s: from %s on no way there and back at %d", what, start.name, i)
			}
			on(s)
		}
	}
}

// oddKeys are keys with numbers and kinds of each sort, valid and not.
func oddKeys() []api.IKey {
	var l []api.IKey
	for _, k := range []string{"", "\x00", "\x00\x00", "a", "a\x00", "a\x00\x00", "a\x01", "b", "bb", "c", "\xff", "\xff\xff"} {
		for _, seq := range []uint64{0, 1, 2, 3, 5, 8, api.MaxSeq, api.MaxSeq + 1, math.MaxUint64} {
			for _, kind := range []int{math.MinInt, math.MinInt + 1, -1, api.KindDelete, api.KindPut, api.KindRange, api.KindSeek, 256, math.MaxInt} {
				l = append(l, api.IKey{Key: k, Seq: seq, Kind: kind})
			}
		}
	}
	return l
}

// someKeys are fewer of them.
func someKeys() []api.IKey {
	var l []api.IKey
	for i, k := range oddKeys() {
		if i%7 == 0 {
			l = append(l, k)
		}
	}
	return l
}

// lists are lists of entries in several orders, none, one and many, with such as are alike within one list and in several.
func lists() map[string][][]api.Entry {
	a, b, c := put("a", 3), put("b", 2), put("c", 1)
	return map[string][][]api.Entry{
		"nothing":               {},
		"no list":               {nil},
		"empty":                 {{}, nil, {}},
		"one":                   {{a}},
		"one behind none":       {nil, {}, {b}},
		"two":                   {{a}, {b}},
		"the later first":       {{c}, {a}},
		"apart":                 {{b}, {a, c}},
		"in turn":               {{c, a, put("e", 9)}, {del("b", 7), put("d", 9)}},
		"the example":           {{a, c}, {put("a", 5), b}},
		"one key":               {{put("a", 1), put("a", 4)}, {del("a", 2), put("a", 3)}},
		"one number":            {{del("a", 2)}, {put("a", 2)}, {api.Entry{Key: "a", Seq: 2, Kind: api.KindRange}}},
		"alike within":          {{b, b, b}},
		"alike in two":          {{a, b}, {a, b}},
		"alike in three":        {{b}, {b, b}, {b}},
		"alike about":           {{a, b, b}, {c, b}, {b, a, a}},
		"alike with none":       {nil, {b, b}, {}, {b}, nil},
		"alike, not in order":   {{b, a, b, a}, {c, a, c, b}},
		"one has all the first": {{a, a, put("a", 1)}, {b, c}, {put("d", 1), put("d", 1)}},
	}
}

// merged tells a cursor over lists, and a plain one.
func merged(l [][]api.Entry) (*Merged, *plain) {
	var sources []Source
	for _, x := range l {
		sources = append(sources, NewList(x))
	}
	return New(sources...), newPlain(l...)
}
