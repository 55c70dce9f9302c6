package tomb

import (
	"math/rand"
	"slices"
	"strconv"
	"testing"

	"moraine/api"
)

// two are the tombs of the chapter's first example.
func two() []api.Tomb {
	return []api.Tomb{tombOf("a", "d", 5), tombOf("b", "e", 7)}
}

func TestSecondExample(t *testing.T) {
	covers(t, two(), "b", 9, 7, true)
	covers(t, two(), "b", 6, 5, true)
	covers(t, two(), "d", 6, 0, false)
	covers(t, two(), "e", 9, 0, false)
}

func TestThirdExample(t *testing.T) {
	one := []api.Tomb{tombOf("a", "d", 5)}
	sameTombs(t, "Cut", Cut(one, "b", "c"), []api.Tomb{tombOf("b", "c", 5)})
	sameTombs(t, "Cut", Cut(one, "d", ""), nil)
	spans(t, []api.Tomb{tombOf("b", "e", 7), tombOf("a", "d", 5)}, "a", "e", true)
	if Valid(tombOf("b", "b", 1)) {
		t.Error("a tomb without keys is valid")
	}
}

func spans(t *testing.T, l []api.Tomb, least, limit string, ok bool) {
	t.Helper()
	if a, b, there := Span(l); a != least || b != limit || there != ok {
		t.Errorf("Span(%s) = %q, %q, %v, want %q, %q, %v", tombText(l), a, b, there, least, limit, ok)
	}
}

// P9.1
func TestValid(t *testing.T) {
	for _, x := range []struct {
		begin, end string
		seq        uint64
		want       bool
	}{
		{"a", "b", 1, true},
		{"", "b", 1, false},
		{"", "", 1, false},
		{"a", "", 1, false},
		{"\x00", "b", 1, true},
		{"\x00", "\x00\x00", 1, true},
		{of(1024), "z", 1, true},
		{of(1025), "z", 1, false},
		{"a", of(1024), 1, true},
		{"a", of(1025), 1, true},
		{"a", of(1026), 1, false},
		{of(1024), of(1025), 1, true},
		{of(1024), of(1024) + "\x00", 1, true},
		{of(1024), of(1024), 1, false},
		{of(1025), of(1025), 1, false},
		{of(1025), of(1026), 1, false},
		{"b", "b", 1, false},
		{"c", "b", 1, false},
		{"b", "ba", 1, true},
		{"b", "b\x00", 1, true},
		{"ba", "b", 1, false},
		{"a\xff", "b", 1, true},
		{"\x7f", "\x80", 1, true},
		{"\xff", "\x7f", 1, false},
		{"\xff", "\xff\xff", 1, true},
		{"Z", "a", 1, true},
		{"10", "9", 1, true},
		{"a", "b", 0, true},
		{"a", "b", 1<<56 - 1, true},
		{"a", "b", 1 << 56, false},
		{"a", "b", maxWord, false},
		{"b", "a", 0, false},
	} {
		if Valid(tombOf(x.begin, x.end, x.seq)) != x.want {
			t.Errorf("Valid(%.9q of %d, %.9q of %d, %d) is not %v", x.begin, len(x.begin), x.end, len(x.end), x.seq, x.want)
		}
	}
	for _, x := range notValid() {
		if Valid(x) || plainValid(x) {
			t.Errorf("%.60s is valid", tombText([]api.Tomb{x}))
		}
	}
}

// P9.1: a tomb at each limit covers as others do.
func TestLimitsCover(t *testing.T) {
	long := []api.Tomb{tombOf(of(1024), of(1024)+"\x00", 1<<56-1)}
	covers(t, long, of(1024), maxWord, 1<<56-1, true)
	covers(t, long, of(1024), 1<<56-1, 1<<56-1, true)
	covers(t, long, of(1024), 1<<56-2, 0, false)
	covers(t, long, of(1023), maxWord, 0, false)
	covers(t, long, of(1025), maxWord, 0, false)
	fragmentsAre(t, long, []api.Fragment{{Begin: of(1024), End: of(1024) + "\x00", Seqs: []uint64{1<<56 - 1}}})
	sameTombs(t, "Cut", Cut(long, "", ""), long)
	spans(t, long, of(1024), of(1024)+"\x00", true)
}

// P9.3: keys right at the bounds and right beside them.
func TestCoverKeys(t *testing.T) {
	l := []api.Tomb{tombOf("b", "d", 5)}
	for key, want := range map[string]bool{
		"": false, "a": false, "a\xff": false, "a\xff\xff": false,
		"b": true, "b\x00": true, "c": true, "cz": true, "c\xff": true, "c\xff\xff\xff": true,
		"d": false, "d\x00": false, "e": false, "\xff": false, "B": false,
	} {
		n := uint64(0)
		if want {
			n = 5
		}
		covers(t, l, key, 9, n, want)
	}
}

// P9.3: numbers of just the tomb's, beside it, none, and the greatest.
func TestCoverNumbers(t *testing.T) {
	l := []api.Tomb{tombOf("b", "d", 5)}
	covers(t, l, "c", 0, 0, false)
	covers(t, l, "c", 4, 0, false)
	covers(t, l, "c", 5, 5, true)
	covers(t, l, "c", 6, 5, true)
	covers(t, l, "c", 1<<56-1, 5, true)
	covers(t, l, "c", 1<<56, 5, true)
	covers(t, l, "c", maxWord, 5, true)
	nought := []api.Tomb{tombOf("b", "d", 0)}
	covers(t, nought, "c", 0, 0, true)
	covers(t, nought, "c", maxWord, 0, true)
	covers(t, nought, "d", maxWord, 0, false)
	many := []api.Tomb{tombOf("a", "z", 3), tombOf("x", "z", 9), tombOf("b", "d", 8), tombOf("a", "z", 5), tombOf("b", "c", 4), tombOf("b", "d", 8)}
	for seq, want := range []uint64{0, 0, 0, 3, 4, 5, 5, 5, 8, 8} {
		covers(t, many, "b", uint64(seq), want, seq >= 3)
	}
}

// P9.1: what is not valid between others is passed over by all calls.
func TestPassedOver(t *testing.T) {
	good := []api.Tomb{tombOf("c", "f", 4), tombOf("b", "d", 7), tombOf("h", "i", 2)}
	var mixed []api.Tomb
	for i, bad := range notValid() {
		mixed = append(mixed, bad)
		if i%3 == 1 {
			mixed = append(mixed, good[i/3])
		}
		alone := []api.Tomb{bad}
		covers(t, alone, "b", maxWord, 0, false)
		covers(t, alone, "", maxWord, 0, false)
		covers(t, alone, of(1025), maxWord, 0, false)
		fragmentsAre(t, alone, nil)
		sameTombs(t, "Cut", Cut(alone, "", ""), nil)
		sameTombs(t, "Cut", Cut(alone, "b", "c"), nil)
		spans(t, alone, "", "", false)
	}
	if len(mixed) != len(good)+len(notValid()) {
		t.Fatal(len(mixed))
	}
	fragmentsAre(t, mixed, plainFragments(good))
	sameTombs(t, "Cut", Cut(mixed, "", ""), good)
	sameTombs(t, "Cut", Cut(mixed, "c", "h"), []api.Tomb{tombOf("c", "f", 4), tombOf("c", "d", 7)})
	spans(t, mixed, "b", "i", true)
	sameTombs(t, "Tombs", NewSet(mixed).Tombs(), good)
	covers(t, mixed, "c", 6, 4, true)
	covers(t, mixed, "g", maxWord, 0, false)
	fragmentsAre(t, notValid(), nil)
	spans(t, notValid(), "", "", false)
}

func TestNoTombs(t *testing.T) {
	for _, l := range [][]api.Tomb{nil, {}} {
		covers(t, l, "a", maxWord, 0, false)
		covers(t, l, "", 0, 0, false)
		fragmentsAre(t, l, nil)
		sameTombs(t, "Cut", Cut(l, "", ""), nil)
		sameTombs(t, "Cut", Cut(l, "a", "b"), nil)
		spans(t, l, "", "", false)
	}
}

// P9.4
func TestCut(t *testing.T) {
	one := []api.Tomb{tombOf("c", "g", 5)}
	for _, x := range []struct {
		least, limit string
		want         []api.Tomb
	}{
		{"", "", one},
		{"a", "z", one},
		{"c", "g", one},
		{"c", "", one},
		{"", "g", one},
		{"b\xff", "g\x00", one},
		{"d", "f", []api.Tomb{tombOf("d", "f", 5)}},
		{"d", "", []api.Tomb{tombOf("d", "g", 5)}},
		{"", "f", []api.Tomb{tombOf("c", "f", 5)}},
		{"a", "f", []api.Tomb{tombOf("c", "f", 5)}},
		{"d", "z", []api.Tomb{tombOf("d", "g", 5)}},
		{"c\x00", "", []api.Tomb{tombOf("c\x00", "g", 5)}},
		{"", "c\x00", []api.Tomb{tombOf("c", "c\x00", 5)}},
		{"f\xff", "", []api.Tomb{tombOf("f\xff", "g", 5)}},
		{"d", "d\x00", []api.Tomb{tombOf("d", "d\x00", 5)}},
		{"d", "d", nil},
		{"f", "d", nil},
		{"z", "a", nil},
		{"g", "", nil},
		{"g", "z", nil},
		{"", "c", nil},
		{"a", "c", nil},
		{"", "\x00", nil},
		{"\xff", "", nil},
	} {
		what := "from " + strconv.Quote(x.least) + " to " + strconv.Quote(x.limit)
		sameTombs(t, "Cut "+what, Cut(one, x.least, x.limit), x.want)
		sameTombs(t, "plain: "+what, plainCut(one, x.least, x.limit), x.want)
	}
}

// P9.4: each tomb stays for itself and in its place.
func TestCutOrder(t *testing.T) {
	l := []api.Tomb{tombOf("f", "k", 2), tombOf("a", "c", 9), tombOf("b", "z", 0), tombOf("f", "k", 2), tombOf("b", "g", 1<<56-1), tombOf("a", "z", 4)}
	sameTombs(t, "Cut", Cut(l, "", ""), l)
	sameTombs(t, "Cut", Cut(l, "c", "g"), []api.Tomb{tombOf("f", "g", 2), tombOf("c", "g", 0), tombOf("f", "g", 2), tombOf("c", "g", 1<<56-1), tombOf("c", "g", 4)})
}

// P9.4: bounds longer than those that a tomb may have are bounds as they stand.
func TestCutLong(t *testing.T) {
	l := []api.Tomb{tombOf("a", "z", 5)}
	sameTombs(t, "Cut", Cut(l, of(1024), of(1024)+"\x00"), []api.Tomb{tombOf(of(1024), of(1024)+"\x00", 5)})
	sameTombs(t, "Cut", Cut(l, of(1025), ""), []api.Tomb{tombOf(of(1025), "z", 5)})
	sameTombs(t, "Cut", Cut(l, "b", of(1026)), []api.Tomb{tombOf("b", of(1026), 5)})
	sameTombs(t, "Cut", Cut(l, "z"+of(2000), ""), nil)
}

// P9.5
func TestSpan(t *testing.T) {
	spans(t, []api.Tomb{tombOf("b", "c", 0)}, "b", "c", true)
	spans(t, []api.Tomb{tombOf("b", "c", 1), tombOf("x", "y", 2)}, "b", "y", true)
	spans(t, []api.Tomb{tombOf("x", "y", 1), tombOf("b", "c", 2)}, "b", "y", true)
	spans(t, []api.Tomb{tombOf("d", "e", 1), tombOf("b", "z", 2), tombOf("c", "y", 3)}, "b", "z", true)
	spans(t, []api.Tomb{tombOf("b", "ba", 1), tombOf("b\x00", "b\xff", 3)}, "b", "b\xff", true)
	spans(t, append(notValid(), tombOf("m", "n", 1)), "m", "n", true)
	spans(t, append([]api.Tomb{tombOf("m", "n", 1)}, notValid()...), "m", "n", true)
}

// handedIn are tombs in a list that has spare room, and what all of its memory is.
func handedIn() (l, room []api.Tomb) {
	room = []api.Tomb{tombOf("d", "f", 1), tombOf("", "z", 6), tombOf("a", "e", 3), tombOf("c", "d", 3), tombOf("0", "9", 8), tombOf("1", "8", 8)}
	return room[:4], room
}

// Rules 4 and 8: what is handed in is not changed, and what lies behind its length neither read nor written.
func TestHandedIn(t *testing.T) {
	l, room := handedIn()
	before := slices.Clone(room)
	fragmentsAre(t, l, plainFragments(before[:4]))
	covers(t, l, "5", maxWord, 0, false)
	sameTombs(t, "Cut", Cut(l, "b", "e"), []api.Tomb{tombOf("d", "e", 1), tombOf("b", "e", 3), tombOf("c", "d", 3)})
	spans(t, l, "a", "f", true)
	s := NewSet(l)
	s.Add(tombOf("x", "y", 1))
	for range s.All() {
		break
	}
	sameTombs(t, "what was handed in", room, before)
}

// Rule 4: what is told is memory of its own, spare room too.
func TestToldIsNewMemory(t *testing.T) {
	l, room := handedIn()
	before := slices.Clone(room)
	cut := Cut(l, "", "")
	spoilTombs(cut)
	sameTombs(t, "what was handed in", room, before)
	told := Fragments(l)
	want := plainFragments(l)
	for i := range told {
		spoilNumbers(told[i].Seqs)
		sameFragments(t, "the pieces behind one that was changed", told[i+1:], want[i+1:])
	}
	sameTombs(t, "what was handed in", room, before)
	fragmentsAre(t, l, want)
}

func spoilTombs(l []api.Tomb) {
	l = l[:cap(l)]
	for i := range l {
		l[i] = tombOf("spoilt", "spoilt", maxWord)
	}
}

func spoilNumbers(l []uint64) {
	l = l[:cap(l)]
	for i := range l {
		l[i] = maxWord
	}
}

// P9.3 to P9.5, P9.7: all calls held against plain ones, with keys and bounds that are met again and again.
func TestAnyTombs(t *testing.T) {
	chance := rand.New(rand.NewSource(9))
	texts := []string{"", "a", "a\x00", "aa", "ab", "b", "b\x00", "ba", "c", "\x00", "\xff", "\xff\xff", of(1023), of(1024), of(1024) + "\x00", of(1026)}
	seqs := []uint64{0, 1, 2, 3, 4, 1<<56 - 1, 1 << 56, maxWord}
	text := func() string { return texts[chance.Intn(len(texts))] }
	for range 3000 {
		var l []api.Tomb
		for range chance.Intn(9) {
			l = append(l, tombOf(text(), text(), seqs[chance.Intn(len(seqs))]))
		}
		fragmentsAre(t, l, plainFragments(l))
		least, limit, ok := plainSpan(l)
		spans(t, l, least, limit, ok)
		least, limit = text(), text()
		sameTombs(t, "Cut of "+tombText(l), Cut(l, least, limit), plainCut(l, least, limit))
		for _, key := range texts {
			seq := seqs[chance.Intn(len(seqs))]
			n, ok := plainCover(l, key, seq)
			covers(t, l, key, seq, n, ok)
		}
	}
}
