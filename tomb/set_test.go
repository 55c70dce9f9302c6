package tomb

import (
	"slices"
	"strconv"
	"testing"

	"moraine/api"
)

func add(t *testing.T, s *Set, x api.Tomb, want api.Errno) {
	t.Helper()
	if e := s.Add(x); e != want {
		t.Errorf("Add(%.60s): error %d, want %d", tombText([]api.Tomb{x}), int(e), int(want))
	}
}

// holds holds all that a set tells against its tombs.
func holds(t *testing.T, s *Set, l []api.Tomb) {
	t.Helper()
	if s.Len() != len(l) {
		t.Errorf("Len %d, want %d", s.Len(), len(l))
	}
	sameTombs(t, "Tombs", s.Tombs(), l)
	sameFragments(t, "All", slices.Collect(s.All()), plainFragments(l))
	for _, key := range append(plainBounds(l), "", "a", "bb", "\xff") {
		for _, seq := range []uint64{0, 1, 4, 5, 6, 7, 1<<56 - 1, maxWord} {
			want, there := plainCover(l, key, seq)
			if n, ok := s.Cover(key, seq); n != want || ok != there {
				t.Errorf("Cover(%q, %d) = %d, %v, want %d, %v", key, seq, n, ok, want, there)
			}
		}
	}
}

// P9.6
func TestSet(t *testing.T) {
	for _, l := range [][]api.Tomb{nil, {}, notValid()} {
		s := NewSet(l)
		if s == nil {
			t.Fatal("no set")
		}
		holds(t, s, nil)
		add(t, s, tombOf("a", "b", 1), api.OK)
		holds(t, s, []api.Tomb{tombOf("a", "b", 1)})
	}
	s := NewSet(two())
	holds(t, s, two())
	more := []api.Tomb{tombOf("c", "x", 6), tombOf("a", "d", 5), tombOf("0", "1", 0), tombOf(of(1024), of(1024)+"\x00", 1<<56-1)}
	l := two()
	for _, x := range more {
		add(t, s, x, api.OK)
		l = append(l, x)
		holds(t, s, l)
	}
}

// P9.6: one that is not valid changes nothing.
func TestAddNotValid(t *testing.T) {
	empty, s := NewSet(nil), NewSet(two())
	for _, bad := range notValid() {
		add(t, empty, bad, api.ErrArg)
		holds(t, empty, nil)
		add(t, s, bad, api.ErrArg)
		holds(t, s, two())
	}
}

// P9.6: a set of many, put one by one or all at once.
func TestOneByOne(t *testing.T) {
	s := NewSet(nil)
	var l []api.Tomb
	for i, x := range all([]string{"b", "d", "f", "h", "j"}) {
		x.Seq = uint64(i % 7)
		l = append(l, x)
		add(t, s, x, api.OK)
		holds(t, s, l)
		holds(t, NewSet(l), l)
	}
}

// P9.6: left early, and as often as one likes.
func TestAllAgain(t *testing.T) {
	s := NewSet(two())
	all := s.All()
	want := plainFragments(two())
	for range 3 {
		sameFragments(t, "All", slices.Collect(all), want)
		for leave := range 3 {
			var told []api.Fragment
			for f := range all {
				told = append(told, f)
				if len(told) > leave {
					break
				}
			}
			sameFragments(t, "left early", told, want[:leave+1])
		}
	}
	for stop := range 3 {
		asked := 0
		all(func(api.Fragment) bool {
			asked++
			return asked <= stop
		})
		if asked != stop+1 {
			t.Errorf("asked %d times, though %d was the last", asked, stop+1)
		}
	}
	for f := range all {
		sameFragments(t, "within another, at "+strconv.Quote(f.Begin), slices.Collect(all), want)
	}
	holds(t, s, two())
}

// P9.6: those count that are there as the range begins, each time.
func TestAllAheadOfTheRange(t *testing.T) {
	s := NewSet(nil)
	all := s.All()
	sameFragments(t, "none", slices.Collect(all), nil)
	l := []api.Tomb{tombOf("c", "d", 5), tombOf("a", "e", 7), tombOf("b", "z", 5)}
	for i, x := range l {
		add(t, s, x, api.OK)
		sameFragments(t, "added ahead", slices.Collect(all), plainFragments(l[:i+1]))
	}
}

// P9.6: tombs that come in the midst of a range, ahead of where it stands, there and behind, are told by the next one.
func TestAllInTheMidst(t *testing.T) {
	more := []api.Tomb{tombOf("0", "1", 1), tombOf("a", "z", 9), tombOf("d", "da", 8), tombOf("x", "y", 2)}
	for stand := range 3 {
		s := NewSet(two())
		var told []api.Fragment
		for f := range s.All() {
			if told = append(told, f); len(told) != stand+1 {
				continue
			}
			for _, x := range more {
				for range 9 {
					add(t, s, x, api.OK)
				}
			}
		}
		sameFragments(t, "added in the midst", told, plainFragments(two()))
		sameFragments(t, "behind it", slices.Collect(s.All()), plainFragments(append(two(), more...)))
	}
}

// P9.6: a range that puts a tomb right behind each piece that it is told ends.
func TestAllEnds(t *testing.T) {
	s := NewSet(two())
	count := 0
	for f := range s.All() {
		count++
		add(t, s, tombOf(f.End, f.End+"\x00", 1), api.OK)
	}
	if count != 3 || s.Len() != 5 {
		t.Errorf("%d gone through, %d tombs", count, s.Len())
	}
}

// Rule 1: a set that is nil, and one that no call made.
func TestNoSet(t *testing.T) {
	for _, s := range []*Set{nil, {}, new(Set)} {
		add(t, s, tombOf("a", "b", 1), api.ErrNil)
		add(t, s, api.Tomb{}, api.ErrNil)
		holds(t, s, nil)
		if n, ok := s.Cover("a", maxWord); n != 0 || ok {
			t.Errorf("Cover of none: %d, %v", n, ok)
		}
		for range s.All() {
			t.Error("a piece of none")
		}
	}
}

// Rule 4: what NewSet was handed may change behind it, and Add does not write there.
func TestSetKeepsItsOwn(t *testing.T) {
	room := append(two(), tombOf("r", "s", 9), tombOf("s", "t", 9))
	s := NewSet(room[:2])
	add(t, s, tombOf("x", "y", 1), api.OK)
	sameTombs(t, "what was handed in", room, append(two(), tombOf("r", "s", 9), tombOf("s", "t", 9)))
	spoilTombs(room)
	holds(t, s, append(two(), tombOf("x", "y", 1)))
}

// Rule 4: what a set tells is memory of its own, spare room too.
func TestSetToldIsNewMemory(t *testing.T) {
	s := NewSet(two())
	first, second := s.Tombs(), s.Tombs()
	spoilTombs(first)
	sameTombs(t, "told ahead", second, two())
	add(t, s, tombOf("c", "x", 6), api.OK)
	sameTombs(t, "told ahead of an Add", second, two())
	_ = append(second, tombOf("spoilt", "spoilt", 1))
	l := append(two(), tombOf("c", "x", 6))
	holds(t, s, l)
	all, want, at := s.All(), plainFragments(l), 0
	for f := range all {
		sameFragments(t, "behind changed ones", []api.Fragment{f}, want[at:at+1])
		spoilNumbers(f.Seqs)
		at++
	}
	sameFragments(t, "anew", slices.Collect(all), want)
	holds(t, s, l)
}

// Two sets have nothing in common.
func TestSetsApart(t *testing.T) {
	l := two()
	one, other := NewSet(l), NewSet(l)
	add(t, one, tombOf("x", "y", 1), api.OK)
	holds(t, other, two())
	add(t, other, tombOf("0", "1", 2), api.OK)
	holds(t, one, append(two(), tombOf("x", "y", 1)))
}
