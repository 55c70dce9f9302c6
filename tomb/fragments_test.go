package tomb

import (
	"slices"
	"strconv"
	"testing"

	"moraine/api"
)

func piece(begin, end string, seqs ...uint64) api.Fragment {
	return api.Fragment{Begin: begin, End: end, Seqs: seqs}
}

func TestFirstExample(t *testing.T) {
	fragmentsAre(t, two(), []api.Fragment{piece("a", "b", 5), piece("b", "d", 7, 5), piece("d", "e", 7)})
	fragmentsAre(t, []api.Tomb{tombOf("a", "c", 3), tombOf("c", "d", 3)}, []api.Fragment{piece("a", "d", 3)})
}

// P9.2: how two or more can lie to one another.
func TestFragments(t *testing.T) {
	for _, x := range []struct {
		what string
		l    []api.Tomb
		want []api.Fragment
	}{
		{"one", []api.Tomb{tombOf("a", "b", 5)}, []api.Fragment{piece("a", "b", 5)}},
		{"the number 0", []api.Tomb{tombOf("a", "c", 0), tombOf("b", "c", 1)}, []api.Fragment{piece("a", "b", 0), piece("b", "c", 1, 0)}},
		{"they touch, other numbers", []api.Tomb{tombOf("a", "b", 5), tombOf("b", "c", 6)}, []api.Fragment{piece("a", "b", 5), piece("b", "c", 6)}},
		{"they touch, the same number", []api.Tomb{tombOf("b", "c", 5), tombOf("a", "b", 5)}, []api.Fragment{piece("a", "c", 5)}},
		{"three touch, the same number", []api.Tomb{tombOf("c", "d", 5), tombOf("a", "b", 5), tombOf("b", "c", 5)}, []api.Fragment{piece("a", "d", 5)}},
		{"a gap, other numbers", []api.Tomb{tombOf("a", "b", 5), tombOf("c", "d", 6)}, []api.Fragment{piece("a", "b", 5), piece("c", "d", 6)}},
		{"a gap, the same number", []api.Tomb{tombOf("a", "b", 5), tombOf("c", "d", 5)}, []api.Fragment{piece("a", "b", 5), piece("c", "d", 5)}},
		{"the least gap", []api.Tomb{tombOf("a", "b", 5), tombOf("b\x00", "d", 5)}, []api.Fragment{piece("a", "b", 5), piece("b\x00", "d", 5)}},
		{"they overlap, the same number", []api.Tomb{tombOf("a", "c", 5), tombOf("b", "d", 5)}, []api.Fragment{piece("a", "d", 5)}},
		{"they overlap, the lesser number behind", []api.Tomb{tombOf("a", "c", 9), tombOf("b", "d", 5)}, []api.Fragment{piece("a", "b", 9), piece("b", "c", 9, 5), piece("c", "d", 5)}},
		{"one within the other", []api.Tomb{tombOf("a", "d", 5), tombOf("b", "c", 6)}, []api.Fragment{piece("a", "b", 5), piece("b", "c", 6, 5), piece("c", "d", 5)}},
		{"one within the other, the same number", []api.Tomb{tombOf("a", "d", 5), tombOf("b", "c", 5)}, []api.Fragment{piece("a", "d", 5)}},
		{"one begins with the other", []api.Tomb{tombOf("a", "d", 5), tombOf("a", "c", 6)}, []api.Fragment{piece("a", "c", 6, 5), piece("c", "d", 5)}},
		{"one ends with the other", []api.Tomb{tombOf("a", "d", 5), tombOf("b", "d", 6)}, []api.Fragment{piece("a", "b", 5), piece("b", "d", 6, 5)}},
		{"the same bounds, other numbers", []api.Tomb{tombOf("a", "d", 5), tombOf("a", "d", 7), tombOf("a", "d", 6)}, []api.Fragment{piece("a", "d", 7, 6, 5)}},
		{"told twice", []api.Tomb{tombOf("a", "d", 5), tombOf("a", "d", 5)}, []api.Fragment{piece("a", "d", 5)}},
		{"told twice, another between", []api.Tomb{tombOf("a", "d", 5), tombOf("b", "e", 7), tombOf("a", "d", 5)}, []api.Fragment{piece("a", "b", 5), piece("b", "d", 7, 5), piece("d", "e", 7)}},
		{"pieces of several numbers that touch", []api.Tomb{tombOf("a", "c", 5), tombOf("a", "b", 7), tombOf("b", "c", 7)}, []api.Fragment{piece("a", "c", 7, 5)}},
		{"numbers that change places", []api.Tomb{tombOf("a", "b", 5), tombOf("a", "b", 7), tombOf("b", "c", 7), tombOf("b", "c", 5)}, []api.Fragment{piece("a", "c", 7, 5)}},
		{"as many numbers, not the same", []api.Tomb{tombOf("a", "c", 5), tombOf("a", "b", 7), tombOf("b", "c", 8)}, []api.Fragment{piece("a", "b", 7, 5), piece("b", "c", 8, 5)}},
		{"they touch where a third goes on", []api.Tomb{tombOf("a", "b", 1), tombOf("b", "c", 2), tombOf("a", "c", 2)}, []api.Fragment{piece("a", "b", 2, 1), piece("b", "c", 2)}},
		{"bounds of bytes", []api.Tomb{tombOf("\x7f", "\x80", 1), tombOf("\x80", "\xff", 2), tombOf("\x00", "\x00\x00", 3)}, []api.Fragment{piece("\x00", "\x00\x00", 3), piece("\x7f", "\x80", 1), piece("\x80", "\xff", 2)}},
		{"a bound that is a beginning of another", []api.Tomb{tombOf("b", "ba", 1), tombOf("ba", "b\xff", 1), tombOf("b\x00", "c", 2)}, []api.Fragment{piece("b", "b\x00", 1), piece("b\x00", "b\xff", 2, 1), piece("b\xff", "c", 2)}},
		{"the greatest number", []api.Tomb{tombOf("a", "c", 1<<56-1), tombOf("b", "d", 1<<56), tombOf("a", "b", 0)}, []api.Fragment{piece("a", "b", 1<<56-1, 0), piece("b", "c", 1<<56-1)}},
	} {
		sameFragments(t, x.what, Fragments(x.l), x.want)
		fragmentsAre(t, x.l, x.want)
		sameFragments(t, "plain: "+x.what, plainFragments(x.l), x.want)
	}
}

// eachOrder goes through all orders of tombs.
func eachOrder(l []api.Tomb, tell func([]api.Tomb)) {
	var place func(ahead, left []api.Tomb)
	place = func(ahead, left []api.Tomb) {
		if len(left) == 0 {
			tell(ahead)
		}
		for i := range left {
			place(append(slices.Clone(ahead), left[i]), slices.Delete(slices.Clone(left), i, i+1))
		}
	}
	place(nil, l)
}

// P9.7: fragments hang on no order.
func TestOtherOrders(t *testing.T) {
	for _, l := range [][]api.Tomb{
		{tombOf("a", "d", 5), tombOf("b", "e", 7), tombOf("c", "f", 6), tombOf("a", "b", 7), tombOf("", "z", 1), tombOf("e", "g", 5)},
		{tombOf("a", "b", 3), tombOf("b", "c", 3), tombOf("c", "d", 3), tombOf("a", "d", 4), tombOf("a", "d", 3), tombOf("x", "y", 3)},
		{tombOf("a", "b", 1), tombOf("a", "c", 2), tombOf("a", "d", 3), tombOf("b", "d", 1), tombOf("c", "d", 2), tombOf("a", "a\x00", 4)},
	} {
		want := plainFragments(l)
		eachOrder(l, func(other []api.Tomb) { fragmentsAre(t, other, want) })
	}
}

// all are all tombs that have bounds of a few, and numbers of two.
func all(bounds []string) []api.Tomb {
	var out []api.Tomb
	for i, begin := range bounds {
		for _, end := range bounds[i+1:] {
			out = append(out, tombOf(begin, end, 1), tombOf(begin, end, 2))
		}
	}
	return out
}

// P9.2, P9.3, P9.4, P9.7: all lists of three tombs.
func TestAllLists(t *testing.T) {
	bounds := []string{"b", "d", "f", "h"}
	tombs := append(all(bounds), api.Tomb{})
	for _, x := range tombs {
		for _, y := range tombs {
			for _, z := range tombs {
				l := []api.Tomb{x, y, z}
				fragmentsAre(t, l, plainFragments(l))
				expectFollows(t, l)
			}
		}
	}
	for _, x := range all([]string{"b", "d", "f", "h", "j", "l"}) {
		for _, y := range all([]string{"b", "d", "f", "h", "j", "l"}) {
			fragmentsAre(t, []api.Tomb{x, y}, plainFragments([]api.Tomb{x, y}))
		}
	}
}

// expectFollows holds tombs against what follows of the promises: P9.7.
func expectFollows(t *testing.T, l []api.Tomb) {
	t.Helper()
	told := Fragments(l)
	for i, f := range told {
		if f.Begin >= f.End || len(f.Seqs) == 0 || i > 0 && told[i-1].End > f.Begin {
			t.Errorf("of %s: %s", tombText(l), fragmentText(told))
		}
		for j := 1; j < len(f.Seqs); j++ {
			if f.Seqs[j-1] <= f.Seqs[j] {
				t.Errorf("of %s the numbers %v", tombText(l), f.Seqs)
			}
		}
	}
	for _, key := range []string{"a", "b", "c", "d", "e", "f", "g", "h", "i"} {
		for seq := range uint64(4) {
			want, there := within(told, key, seq)
			covers(t, l, key, seq, want, there)
			expectCuts(t, l, key, seq)
		}
	}
}

// within tells the greatest number, not above seq, of a piece that a key lies in.
func within(l []api.Fragment, key string, seq uint64) (uint64, bool) {
	for _, f := range l {
		if key < f.Begin || key >= f.End {
			continue
		}
		for _, n := range f.Seqs {
			if n <= seq {
				return n, true
			}
		}
	}
	return 0, false
}

// expectCuts asks whether what is cut covers a key just if it lies in between and is covered.
func expectCuts(t *testing.T, l []api.Tomb, key string, seq uint64) {
	t.Helper()
	for _, least := range []string{"", "c", "d"} {
		for _, limit := range []string{"", "c", "f", "g"} {
			want, there := Cover(l, key, seq)
			if key < least || limit != "" && key >= limit {
				want, there = 0, false
			}
			if n, ok := Cover(Cut(l, least, limit), key, seq); n != want || ok != there {
				t.Errorf("%s cut from %q to %q covers %q at %d: %d, %v", tombText(l), least, limit, key, seq, n, ok)
			}
		}
	}
}

// key tells a key by its place.
func key(place int) string {
	return "k" + strconv.Itoa(1000000+place)
}

// P9.2: many tombs, one behind the other, and one within the other.
func TestManyTombs(t *testing.T) {
	const many, deep = 20000, 1000
	var row, shared, nest []api.Tomb
	for i := range many {
		at := i * 7919 % many // in another order than that of the keys
		row = append(row, tombOf(key(at), key(at+1), uint64(at)))
		shared = append(shared, tombOf(key(at), key(at+1), 7))
	}
	told := Fragments(row)
	if len(told) != many {
		t.Fatalf("%d pieces", len(told))
	}
	for i, f := range told {
		sameFragments(t, "one of a row", []api.Fragment{f}, []api.Fragment{piece(key(i), key(i+1), uint64(i))})
	}
	sameFragments(t, "one number", Fragments(shared), []api.Fragment{piece(key(0), key(many), 7)})
	for i := range deep {
		nest = append(nest, tombOf(key(i), key(3*deep-i), uint64(i)))
	}
	told = Fragments(nest)
	if len(told) != 2*deep-1 {
		t.Fatalf("%d pieces", len(told))
	}
	for i, f := range told {
		depth := min(i+1, 2*deep-1-i)
		if len(f.Seqs) != depth || f.Seqs[0] != uint64(depth-1) || f.Seqs[depth-1] != 0 {
			t.Fatalf("the piece %d has %d numbers", i, len(f.Seqs))
		}
	}
}
