package merge

import (
	"math/rand"
	"slices"
	"strconv"
	"testing"

	"moraine/api"
)

// tells holds what a call answered, and where a cursor stands, against a text (a key with its number, or nothing) and a source's number.
func tells(t *testing.T, what string, ok bool, m *Merged, want string, from int) {
	t.Helper()
	x, here := m.Here()
	text := ""
	if here {
		text = x.Key + " " + strconv.FormatUint(x.Seq, 10)
	}
	if text != want || ok != here || ok != (want != "") || !here && x != (api.Entry{}) || m.From() != from {
		t.Errorf("%s: %v, at %q (%s) from %d; want %q from %d", what, ok, text, brief(x), m.From(), want, from)
	}
}

// Example 1
func TestExampleOne(t *testing.T) {
	m := New(NewList([]api.Entry{put("a", 3), put("c", 1)}), NewList([]api.Entry{put("a", 5), put("b", 2)}))
	tells(t, "new", false, m, "", -1)
	tells(t, "First", m.First(), m, "a 5", 1)
	tells(t, "Next", m.Next(), m, "a 3", 0)
	tells(t, "Next", m.Next(), m, "b 2", 1)
	tells(t, "Prev", m.Prev(), m, "a 3", 0)
	tells(t, "Last", m.Last(), m, "c 1", 0)
	tells(t, "Next", m.Next(), m, "", -1)
	tells(t, "Prev", m.Prev(), m, "c 1", 0)
	if x, ok := m.Here(); !ok || x != put("c", 1) {
		t.Errorf("at %s", brief(x))
	}
}

// Example 2
func TestExampleTwo(t *testing.T) {
	m := New()
	tells(t, "First of no source", m.First(), m, "", -1)
	m = New(nil, NewList([]api.Entry{put("a", 1)}))
	tells(t, "First behind a nil one", m.First(), m, "a 1", 1)
}

// P19.2: each of the five calls behind every other one, from each place, along all ways of five calls.
func TestMergedWays(t *testing.T) {
	l := append(calls(), seek1(at("b", 2)))
	for name, x := range lists() {
		x = marked(x...)
		walked(t, name, l, 5, func() (Source, *plain) { return merged(x) })
	}
}

// P19.2: Seek of keys below all, above all, between two, of such as are there, with kinds that are unlike, and all calls behind it.
func TestMergedSeeks(t *testing.T) {
	for name, l := range lists() {
		got, want := merged(marked(l...))
		sought(t, name, someKeys(), got, want)
		for _, k := range oddKeys() {
			moved(t, name+" "+seek1(k).name, seek1(k), got, want)
		}
	}
}

// places holds every call from every place, and every second call behind it.
func places(t *testing.T, what string, got Source, want *plain) {
	t.Helper()
	for i := -1; i <= len(want.items); i++ {
		for _, way := range [][]call{up(i), down(i, len(want.items))} {
			for _, c := range calls() {
				for _, second := range calls() {
					for _, step := range way {
						step.of(got)
						step.of(want)
					}
					path := what + " from " + strconv.Itoa(i) + " behind " + way[0].name
					same(t, path, got, want)
					moved(t, path+" "+c.name, c, got, want)
					moved(t, path+" "+c.name+" "+second.name, second, got, want)
				}
			}
		}
	}
}

// up are the calls by which a cursor comes to a place from the first one.
func up(i int) []call {
	if i < 0 {
		return []call{calls()[0], calls()[3]}
	}
	return append(calls()[:1:1], slices.Repeat(calls()[2:3], i)...)
}

// down are those by which it comes there from the last one.
func down(i, size int) []call {
	if i >= size {
		return []call{calls()[1], calls()[2]}
	}
	return append(calls()[1:2:2], slices.Repeat(calls()[3:4], size-1-i)...)
}

// P19.2, P19.4: Next behind Prev and Prev behind Next at each place, whichever way it came there, from one source to another and within one.
func TestMergedPlaces(t *testing.T) {
	for name, l := range lists() {
		got, want := merged(marked(l...))
		places(t, name, got, want)
	}
	x := marked(manyKinds()[:40], manyKinds()[20:60], manyKinds()[50:60], nil, manyKinds()[:40])
	got, want := merged(x)
	places(t, "many kinds", got, want)
}

// P19.2: of those that are alike in all three the lesser source's first, of one source in its order; both ways, and turned about.
func TestMergedAlike(t *testing.T) {
	b := put("b", 2)
	x := marked([]api.Entry{b, b}, []api.Entry{put("c", 2), b, put("a", 2)}, nil, []api.Entry{b, b, b})
	m, p := merged(x)
	var want []string
	for _, at := range [][2]int{{1, 2}, {0, 0}, {0, 1}, {1, 1}, {3, 0}, {3, 1}, {3, 2}, {1, 0}} {
		want = append(want, strconv.Itoa(at[0])+" "+strconv.Itoa(at[1]))
	}
	var up, down []string
	for ok := m.First(); ok; ok = m.Next() {
		x, _ := m.Here()
		up = append(up, x.Value)
	}
	for ok := m.Prev(); ok; ok = m.Prev() {
		x, _ := m.Here()
		down = append(down, x.Value)
	}
	slices.Reverse(down)
	if !slices.Equal(up, want) || !slices.Equal(down, want) {
		t.Errorf("%q and %q, want %q", up, down, want)
	}
	m.Seek(key(b))
	if x, _ := m.Here(); x.Value != "0 0" || m.From() != 0 {
		t.Errorf("Seek: at %s", brief(x))
	}
	bothWays(t, "alike", m, p.entries())
}

// P19.2: what is next to each other in the order of all keys, valid and not: of one key, number, kind, and where one of them ends.
func TestMergedNeighbours(t *testing.T) {
	keys := oddKeys()
	chance := rand.New(rand.NewSource(192))
	for range 40 {
		dealt := make([][]api.Entry, 3)
		for _, k := range keys {
			if chance.Intn(3) == 0 {
				for range 1 + chance.Intn(3) {
					i := chance.Intn(3)
					dealt[i] = append(dealt[i], api.Entry{Key: k.Key, Seq: k.Seq, Kind: k.Kind})
				}
			}
		}
		dealt = marked(dealt...)
		m, p := merged(dealt)
		bothWays(t, "neighbours", m, p.entries())
	}
}

// P19.2: a key behind another, and no key between.
func TestAfter(t *testing.T) {
	for _, k := range oddKeys() {
		next := after(k)
		if !plainBelow(k, next) {
			t.Fatalf("%+v is not behind %+v", next, k)
		}
		for _, other := range append(oddKeys(), next) {
			if plainBelow(k, other) && plainBelow(other, next) {
				t.Fatalf("%+v is between %+v and %+v", other, k, next)
			}
		}
	}
}

// P19.2: wherever its sources stand, a new one stands ahead.
func TestMergedOverMoved(t *testing.T) {
	for name, l := range lists() {
		l = marked(l...)
		for _, moves := range [][]call{{calls()[0]}, {calls()[1]}, {calls()[0], calls()[2]}, {calls()[1], calls()[2]}, {seek1(at("b", 2))}} {
			for _, c := range append(calls(), seek1(at("b", 2))) {
				var sources []Source
				for _, x := range l {
					s := NewList(x)
					for _, move := range moves {
						move.of(s)
					}
					sources = append(sources, s)
				}
				m, p := New(sources...), newPlain(l...)
				same(t, name, m, p)
				moved(t, name+" "+c.name, c, m, p)
				moved(t, name+" Next behind "+c.name, calls()[2], m, p)
				moved(t, name+" Prev behind that", calls()[3], m, p)
			}
		}
	}
}

// P19.2, rule 4: the list of sources is neither changed nor kept.
func TestSourcesHandedIn(t *testing.T) {
	x := marked([]api.Entry{put("a", 3), put("c", 1)}, []api.Entry{put("a", 5), put("b", 2)})
	other := NewList([]api.Entry{put("0", 1)})
	given := []Source{NewList(x[0]), NewList(x[1]), other, other}
	was := slices.Clone(given)
	m, p := New(given[:2]...), newPlain(x...)
	for _, c := range calls() {
		moved(t, c.name, c, m, p)
	}
	if !slices.Equal(given, was) {
		t.Error("the list was changed")
	}
	for i := range given {
		given[i] = other
	}
	bothWays(t, "list changed", m, p.entries())
	clear(given)
	bothWays(t, "list cleared", m, p.entries())
	if x, ok := other.Here(); ok || x != (api.Entry{}) {
		t.Errorf("one behind the list was moved: at %s", brief(x))
	}
}

// Rule 1: a cursor that is nil, and one that no call gave.
func TestNoMerged(t *testing.T) {
	for _, m := range []*Merged{nil, {}, new(Merged)} {
		for range 2 {
			for _, c := range append(calls(), seek1(at("a", 1)), seek1(api.IKey{})) {
				if c.of(m) {
					t.Error(c.name, "stands at one")
				}
				if x, ok := m.Here(); ok || x != (api.Entry{}) || m.From() != 0 {
					t.Errorf("%s: at %s, %v, from %d", c.name, brief(x), ok, m.From())
				}
			}
		}
	}
}

// P19.2: cursors over sources of their own are apart.
func TestMergedApart(t *testing.T) {
	x := marked([]api.Entry{put("a", 1), put("c", 1)}, []api.Entry{put("b", 1)})
	one, first := merged(x)
	two, second := merged(x)
	for _, c := range []call{calls()[0], calls()[2], calls()[3], calls()[1], calls()[2]} {
		moved(t, "one "+c.name, c, one, first)
		same(t, "two stays", two, second)
	}
	moved(t, "two Last", calls()[1], two, second)
	moved(t, "two Prev", calls()[3], two, second)
	same(t, "one stays", one, first)
}

// P19.2: cursors over cursors tell what one over all tells.
func TestMergedOfMerged(t *testing.T) {
	a, b, c, d := []api.Entry{put("a", 3), put("c", 1), put("b", 2)}, []api.Entry{put("a", 5), put("b", 2)}, []api.Entry{put("b", 2), put("d", 4)}, []api.Entry{put("b", 2), put("a", 3)}
	x := marked(a, b, c, d)
	inner := func(from int) int { return []int{0, 0, 1, 2}[from] }
	fresh := func() (Source, *plain) {
		m := New(New(NewList(x[0]), NewList(x[1])), New(NewList(x[2])), New(New(), New(nil, New(NewList(x[3])))))
		p := newPlain(x...)
		for i := range p.items {
			p.items[i].from = inner(p.items[i].from)
		}
		return m, p
	}
	walked(t, "nested", append(calls(), seek1(at("b", 2))), 5, fresh)
	got, want := fresh()
	sought(t, "nested", someKeys(), got, want)
	places(t, "nested", got, want)
	bothWays(t, "nested", got, want.entries())
}

// P19.4: from First on with Next what All tells, from Last on with Prev the same from behind, each once, and back and forth.
func TestMergedTellsAll(t *testing.T) {
	for name, l := range lists() {
		l = marked(l...)
		m, _ := merged(l)
		bothWays(t, name, m, All(l...))
	}
}

// chanceLists makes lists of entries of few keys, numbers and kinds, so that many are alike.
func chanceLists(chance *rand.Rand) [][]api.Entry {
	out := make([][]api.Entry, chance.Intn(7))
	most := 1 + chance.Intn(12)
	for i := range out {
		for range chance.Intn(most) {
			out[i] = append(out[i], anyEntry(chance))
		}
	}
	return marked(out...)
}

func anyEntry(chance *rand.Rand) api.Entry {
	k := anyKey(chance)
	return api.Entry{Key: k.Key, Seq: k.Seq, Kind: k.Kind}
}

func anyKey(chance *rand.Rand) api.IKey {
	return api.IKey{Key: []string{"a", "a\x00", "b", "bb", "c"}[chance.Intn(5)], Seq: uint64(chance.Intn(4)), Kind: []int{0, 1, 2, 255, -1}[chance.Intn(5)]}
}

// anyCall is mostly one of the two that go by one.
func anyCall(chance *rand.Rand) call {
	if i := chance.Intn(20); i < 2 {
		return calls()[i]
	} else if i < 5 {
		return seek1(anyKey(chance))
	}
	return calls()[2+chance.Intn(2)]
}

// P19.1 to P19.4: any calls over any lists.
func TestAnyCalls(t *testing.T) {
	chance := rand.New(rand.NewSource(194))
	for range 3000 {
		l := chanceLists(chance)
		what := brief(l)
		m, p := merged(l)
		for range 40 {
			c := anyCall(chance)
			moved(t, what+" "+c.name, c, m, p)
		}
		bothWays(t, what, m, p.entries())
		if got := All(l...); !slices.Equal(got, p.entries()) {
			t.Fatalf("All of %s: %s", what, brief(got))
		}
	}
}

// P19.2: very many sources, and cursors deep in one another.
func TestMergedOfMany(t *testing.T) {
	var l [][]api.Entry
	for i := range 3000 {
		l = append(l, []api.Entry{put(strconv.Itoa(i*7919%3000), uint64(i%3)), put(strconv.Itoa(i%10), 5)})
	}
	m, _ := merged(l)
	want := All(l...)
	n := 0
	for ok := m.First(); ok; ok = m.Next() {
		if x, _ := m.Here(); n >= len(want) || x != want[n] {
			t.Fatalf("at %d is %s", n, brief(x))
		}
		n++
	}
	for ok := m.Last(); ok; ok = m.Prev() {
		n--
		if x, _ := m.Here(); n < 0 || x != want[n] {
			t.Fatalf("back at %d is %s", n, brief(x))
		}
	}
	if n != 0 {
		t.Errorf("%d are left", n)
	}
	var s Source = NewList([]api.Entry{put("a", 1), put("b", 1), put("c", 1)})
	for range 1 << 16 {
		s = New(s)
	}
	bothWays(t, "deep", s, []api.Entry{put("a", 1), put("b", 1), put("c", 1)})
}
