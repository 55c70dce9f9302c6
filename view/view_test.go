package view

import (
	"fmt"
	"math/rand"
	"slices"
	"strconv"
	"testing"

	"moraine/api"
	"moraine/merge"
)

// tells holds what a call answered, and where a view stands, against a key with its value, or nothing.
func tells(t *testing.T, what string, ok bool, v *View, want string) {
	t.Helper()
	key, value, here := v.Here()
	text := ""
	if here {
		text = key + " " + value
	}
	if text != want || ok != here || !here && key+value != "" {
		t.Errorf("%s: %v, at %q %q (%v), want %q", what, ok, key, value, here, want)
	}
}

func exampleView(least, limit string) *View {
	l, tombs := example()
	return scene{dealt: [][]api.Entry{l}, tombs: tombs, seq: 4, least: least, limit: limit}.view()
}

// Example 2
func TestExampleTwo(t *testing.T) {
	v := exampleView("b", "")
	tells(t, "new", false, v, "")
	tells(t, "First", v.First(), v, "b y")
	tells(t, "Next", v.Next(), v, "c z")
	tells(t, "Next", v.Next(), v, "")
	tells(t, "Prev", v.Prev(), v, "c z")
	tells(t, "Prev", v.Prev(), v, "b y")
	tells(t, "Prev", v.Prev(), v, "")
	tells(t, "Next", v.Next(), v, "b y")
	tells(t, "Seek b", v.Seek("b"), v, "b y")
	tells(t, "Seek bb", v.Seek("bb"), v, "c z")
	tells(t, "Seek d", v.Seek("d"), v, "")
	tells(t, "Last", v.Last(), v, "c z")
}

// Example 3
func TestExampleThree(t *testing.T) {
	v := exampleView("", "c")
	tells(t, "First", v.First(), v, "b y")
	tells(t, "Next", v.Next(), v, "")
	v = exampleView("c", "b")
	tells(t, "First", v.First(), v, "")
}

// P20.2: each of the five calls behind every other one, along all ways of four calls, and of seven.
func TestViewWays(t *testing.T) {
	l := append(calls(), seek("b"), seek("c"))
	for name, s := range scenes() {
		for _, b := range [][2]string{{"", ""}, {"b", ""}, {"aa", "d"}} {
			s.least, s.limit = b[0], b[1]
			walked(t, fmt.Sprint(name, b), l, 4, func() (cursor, *plain) { return s.view(), s.plain() })
		}
	}
	s := scenes()["what is hidden and not"]
	walked(t, "seven calls", calls(), 7, func() (cursor, *plain) { return s.view(), s.plain() })
}

// P20.2, P20.3: every call, and every second and third one, from each place, whichever way the view came there: at the beginning, in the middle, at either end and past it; between all bounds.
func TestViewPlaces(t *testing.T) {
	eachScene(func(what string, s scene) {
		places(t, what, s.view(), s.plain())
	})
}

// P20.2: Seek of keys below all, at each, between two, that are there and not seen, at the bounds and beyond them, from wherever the view stands.
func TestViewSeeks(t *testing.T) {
	eachScene(func(what string, s scene) {
		sought(t, what, s.keys(), s.view(), s.plain())
	})
}

// P20.2: where Seek comes to, told one by one.
func TestSeekToBounds(t *testing.T) {
	x := []api.Entry{put("a", 1), put("b", 1), put("c", 1), del("d", 2), put("d", 1), put("e", 1), put("f", 9), put("g", 1)}
	s := scene{dealt: [][]api.Entry{x}, tombs: []api.Tomb{ranged("c", "cc", 3)}, seq: 5, least: "b", limit: "g"}
	v := s.view()
	for _, c := range [][2]string{{"", "b"}, {"a", "b"}, {"aa", "b"}, {"b", "b"}, {"bb", "e"}, {"c", "e"}, {"d", "e"}, {"e", "e"}, {"e\x00", ""}, {"f", ""}, {"g", ""}, {"h", ""}} {
		for _, start := range calls() {
			start.of(v)
			want := c[1]
			if want != "" {
				want += " " + want + " of 1"
			}
			tells(t, "Seek "+c[0]+" behind "+start.name, v.Seek(c[0]), v, want)
		}
	}
	v.Seek("h")
	tells(t, "Prev from behind", v.Prev(), v, "e e of 1")
	v.Seek("")
	tells(t, "Prev from least", v.Prev(), v, "")
	tells(t, "Prev from ahead", v.Prev(), v, "")
	tells(t, "Next from ahead", v.Next(), v, "b b of 1")
}

// P20.2: bounds, told one by one.
func TestBounds(t *testing.T) {
	x := []api.Entry{put("a", 1), put("b", 1), put("c", 1), del("c", 2), put("d", 1)}
	for _, c := range [][3]string{
		{"", "", "abd"}, {"a", "", "abd"}, {"a\x00", "", "bd"}, {"b", "", "bd"}, {"c", "", "d"}, {"d", "", "d"}, {"d\x00", "", ""},
		{"", "a", ""}, {"", "a\x00", "a"}, {"", "b", "a"}, {"", "c", "ab"}, {"", "d", "ab"}, {"", "d\x00", "abd"}, {"", "z", "abd"},
		{"a", "d", "ab"}, {"aa", "cc", "b"}, {"b", "d", "b"}, {"b", "c", "b"}, {"c", "d", ""}, {"b", "b\x00", "b"},
		{"b", "b", ""}, {"c", "b", ""}, {"z", "a", ""}, {"d", "a\x00", ""}, {"b\x00", "c", ""},
	} {
		v := scene{dealt: [][]api.Entry{x}, seq: 5, least: c[0], limit: c[1]}.view()
		var up, down string
		for ok := v.First(); ok; ok = v.Next() {
			key, _, _ := v.Here()
			up += key
		}
		for ok := v.Last(); ok; ok = v.Prev() {
			key, _, _ := v.Here()
			down = key + down
		}
		if up != c[2] || down != c[2] {
			t.Errorf("from %q to %q: %q and %q, want %q", c[0], c[1], up, down, c[2])
		}
	}
}

// P20.3: from First on with Next, from Last on with Prev, what Seen tells, cut to the bounds.
func TestViewTellsSeen(t *testing.T) {
	eachScene(func(what string, s scene) {
		want := cut(Seen(s.entries(), s.tombs, s.seq), s.least, s.limit)
		bothWays(t, what, s.view(), want)
		if !slices.Equal(want, s.seen()) {
			t.Errorf("%s: Seen, cut: %s", what, brief(want))
		}
	})
}

// P20.3: over each two neighbours back and forth, from either end.
func TestThereAndBack(t *testing.T) {
	eachScene(func(what string, s scene) {
		v, l := s.view(), s.seen()
		is := func(i int) bool {
			key, value, ok := v.Here()
			return ok && key == l[i].Key && value == l[i].Value
		}
		for i := range len(l) - 1 {
			if !(v.Seek(l[i].Key) && is(i) && v.Next() && is(i+1) && v.Prev() && is(i) && v.Next() && is(i+1) && v.Next() == (i+2 < len(l)) && v.Prev() && v.Prev() == (i+2 < len(l)+1)) {
				t.Fatalf("%s: up at %d", what, i)
			}
			if !(v.Seek(l[i+1].Key) && is(i+1) && v.Prev() && is(i) && v.Next() && is(i+1) && v.Prev() && is(i) && v.Prev() == (i > 0) && v.Next()) {
				t.Fatalf("%s: down at %d", what, i)
			}
		}
	})
}

// P20.2, rule 1: a view that is nil, and one that no call gave.
func TestNoView(t *testing.T) {
	for _, v := range []*View{nil, {}, new(View), New(nil, nil, 5, "", ""), New(nil, []api.Tomb{ranged("a", "b", 1)}, 0, "a", "b")} {
		for range 2 {
			for _, c := range append(calls(), seek(""), seek("a")) {
				tells(t, c.name, c.of(v), v, "")
			}
		}
	}
}

// P20.2, rule 1: New of a merged cursor that is nil, and of one that no call gave.
func TestNewOfNone(t *testing.T) {
	for _, m := range []*merge.Merged{nil, {}, new(merge.Merged)} {
		if v := New(m, []api.Tomb{ranged("a", "b", 1)}, 5, "a", "b"); v != nil {
			t.Errorf("a view over none: %v", v)
		}
	}
}

// P20.2: New of a merged cursor wherever that one stands: at its first source's entry, at another's, and at none; the view stands ahead.
func TestNewOverMoved(t *testing.T) {
	for name, s := range scenes() {
		for _, move := range []func(m *merge.Merged){
			func(m *merge.Merged) { m.First() },
			func(m *merge.Merged) { m.Last() },
			func(m *merge.Merged) { m.First(); m.Next() },
			func(m *merge.Merged) { m.Last(); m.Prev() },
			func(m *merge.Merged) { m.Last(); m.Next() },
			func(m *merge.Merged) { m.First(); m.Prev() },
			func(m *merge.Merged) { m.Seek(api.IKey{Key: "b", Seq: 3, Kind: 1}) },
		} {
			fresh := func() (cursor, *plain) {
				m := s.merged()
				move(m)
				return New(m, s.tombs, s.seq, s.least, s.limit), s.plain()
			}
			walked(t, name, append(calls(), seek("b")), 2, fresh)
			got, want := fresh()
			bothWays(t, name, got, want.items)
		}
	}
}

// P20.2, rules 4 and 8: the list of tombs is neither changed nor kept, and its spare room is not read.
func TestTombsHandedIn(t *testing.T) {
	for name, s := range scenes() {
		all := append(slices.Clone(s.tombs), ranged("\x00", "\xff\xff", api.MaxSeq), ranged("a", "z", 5))
		was := slices.Clone(all)
		given := s
		given.tombs = all[:len(s.tombs)]
		v := given.view()
		bothWays(t, name, v, s.seen())
		if !slices.Equal(all, was) {
			t.Errorf("%s: the tombs were changed: %s", name, brief(all))
		}
		v.First()
		for i := range all {
			all[i] = ranged("\x00", "\xff\xff\xff", min(s.seq, api.MaxSeq))
		}
		bothWays(t, name+", tombs changed", v, s.seen())
		clear(all)
		bothWays(t, name+", tombs cleared", v, s.seen())
		_ = append(all[:0], ranged("\x00", "\xff\xff\xff", 5))
		places(t, name+", tombs changed", v, s.plain())
	}
}

// P20.2: views over merged cursors of their own are apart, also over one list of tombs.
func TestViewsApart(t *testing.T) {
	s := scenes()["many of each key"]
	s.tombs = []api.Tomb{ranged("c", "d", 3)}
	one, two, first, second := s.view(), s.view(), s.plain(), s.plain()
	for _, c := range []call{calls()[0], calls()[2], calls()[3], calls()[1], calls()[2], seek("a")} {
		moved(t, "one "+c.name, c, one, first)
		same(t, "two stays", two, second)
	}
	moved(t, "two Last", calls()[1], two, second)
	moved(t, "two Prev", calls()[3], two, second)
	same(t, "one stays", one, first)
}

// P20.2: at each number another view of the same.
func TestNumbers(t *testing.T) {
	for name, s := range scenes() {
		for _, x := range s.entries() {
			for _, seq := range []uint64{x.Seq - 1, x.Seq, x.Seq + 1} {
				s.seq = seq
				places(t, fmt.Sprint(name, " at ", seq), s.view(), s.plain())
			}
		}
	}
}

// P20.2 to P20.4: any calls over anything.
func TestAnyCalls(t *testing.T) {
	chance := rand.New(rand.NewSource(202))
	for range 6000 {
		s := chanceScene(chance)
		what := brief(s)
		v, p := s.view(), s.plain()
		for range 40 {
			c := chanceCall(chance)
			moved(t, what+" "+c.name, c, v, p)
		}
		bothWays(t, what, v, p.items)
	}
}

// P20.2: very many keys, of each many entries, most of them not seen.
func TestViewOfMany(t *testing.T) {
	dealt := make([][]api.Entry, 7)
	var tombs []api.Tomb
	for i := range 60000 {
		key := strconv.Itoa(100000 + i*7919%20000)
		x := api.Entry{Key: key, Seq: uint64(i), Kind: i % 3 % 2, Value: strconv.Itoa(i)}
		dealt[i%7] = append(dealt[i%7], x)
	}
	for i := range 40 {
		tombs = append(tombs, ranged(strconv.Itoa(100000+i*500), strconv.Itoa(100000+i*500+i*3), uint64(i*1000)))
	}
	s := scene{dealt: dealt, tombs: tombs, seq: 50000}
	want := s.seen()
	bothWays(t, "many", s.view(), want)
	if got := Seen(s.entries(), tombs, s.seq); len(got) < 3000 || !slices.Equal(got, want) {
		t.Errorf("Seen tells %d keys, not %d", len(got), len(want))
	}
	s.least, s.limit = "105000", "105100"
	places(t, "some of many", s.view(), s.plain())
}
