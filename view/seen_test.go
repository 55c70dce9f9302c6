package view

import (
	"fmt"
	"math"
	"math/rand"
	"slices"
	"testing"

	"moraine/api"
)

// line tells what is seen in short.
func line(l []api.Op) string {
	s := ""
	for _, x := range l {
		s += fmt.Sprintf("%s %s; ", x.Key, x.Value)
	}
	return s
}

// Example 1
func TestExampleOne(t *testing.T) {
	l, tombs := example()
	for seq, want := range []string{"", "a x; ", "a x; b y; ", "a x; b y; c z; ", "b y; c z; ", "c z; ", "c z; "} {
		got := Seen(l, tombs, uint64(seq))
		if line(got) != want {
			t.Errorf("at %d: %s", seq, line(got))
		}
		for _, x := range got {
			if x.Kind != api.KindPut {
				t.Errorf("at %d: no put: %+v", seq, x)
			}
		}
	}
}

// P20.1: what is seen of all scenes, at each number that there is and those about it.
func TestSeen(t *testing.T) {
	for name, s := range scenes() {
		numbers := []uint64{0, 1, 2, 3, 4, 5, 6, 7, 8, 9, api.MaxSeq - 1, api.MaxSeq, api.MaxSeq + 1, math.MaxUint64 - 1, math.MaxUint64, s.seq}
		for _, seq := range numbers {
			want := plainSeen(s.entries(), s.tombs, seq)
			if got := Seen(s.entries(), s.tombs, seq); !slices.Equal(got, want) {
				t.Errorf("%s at %d: %s, want %s", name, seq, brief(got), brief(want))
			}
		}
	}
}

// P20.1: of a key its first entry counts, whatever its kind, also where a put is behind it.
func TestFirstEntry(t *testing.T) {
	x := func(seq uint64, kind int, value string) api.Entry {
		return api.Entry{Key: "k", Seq: seq, Kind: kind, Value: value}
	}
	for _, c := range []struct {
		l    []api.Entry
		seq  uint64
		want string
	}{
		{nil, 9, ""},
		{[]api.Entry{x(3, 1, "v")}, 3, "k v; "},
		{[]api.Entry{x(3, 1, "v")}, 2, ""},
		{[]api.Entry{x(3, 1, "")}, 3, "k ; "},
		{[]api.Entry{x(2, 1, "old"), x(3, 1, "new")}, 9, "k new; "},
		{[]api.Entry{x(2, 1, "old"), x(3, 1, "new")}, 2, "k old; "},
		{[]api.Entry{x(2, 1, "old"), x(3, 0, "")}, 9, ""},
		{[]api.Entry{x(2, 1, "old"), x(3, 0, "")}, 2, "k old; "},
		{[]api.Entry{x(2, 0, ""), x(3, 1, "new")}, 9, "k new; "},
		{[]api.Entry{x(2, 0, ""), x(2, 1, "put")}, 9, "k put; "},
		{[]api.Entry{x(2, 1, "put"), x(2, 2, "range")}, 9, ""},
		{[]api.Entry{x(2, 1, "put"), x(2, 255, "seek")}, 9, ""},
		{[]api.Entry{x(2, 1, "put"), x(3, 255, "seek")}, 2, "k put; "},
		{[]api.Entry{x(2, 1, "put"), x(2, math.MaxInt, "")}, 2, ""},
		{[]api.Entry{x(2, 1, "put"), x(3, math.MinInt, "")}, 3, ""},
		{[]api.Entry{x(2, 1, "put"), x(2, math.MinInt, "")}, 3, "k put; "},
		{[]api.Entry{x(2, 257, "none")}, 3, ""},
		{[]api.Entry{x(2, 1, "first"), x(2, 1, "second")}, 2, "k first; "},
		{[]api.Entry{x(1, 1, "old"), x(2, 1, "first"), x(9, 1, "above"), x(2, 1, "second"), x(2, 1, "third")}, 8, "k first; "},
		{[]api.Entry{x(0, 1, "nought")}, 0, "k nought; "},
		{[]api.Entry{x(math.MaxUint64, 1, "most")}, math.MaxUint64, "k most; "},
		{[]api.Entry{x(math.MaxUint64, 1, "most")}, math.MaxUint64 - 1, ""},
		{[]api.Entry{{Seq: 1, Kind: 1, Value: "of none"}}, 1, " of none; "},
		{[]api.Entry{{}}, 1, ""},
	} {
		if got := line(Seen(c.l, nil, c.seq)); got != c.want {
			t.Errorf("%s at %d: %q, want %q", brief(c.l), c.seq, got, c.want)
		}
	}
}

// P20.1: which tombs hide an entry with the number 5, at 8.
func TestTombs(t *testing.T) {
	x := []api.Entry{{Key: "k", Seq: 5, Kind: api.KindPut, Value: "v"}, {Key: "k", Seq: 2, Kind: api.KindPut, Value: "old"}}
	long := string(slices.Repeat([]byte{'k'}, api.MaxKey+2))
	for _, c := range []struct {
		t     api.Tomb
		hides bool
	}{
		{ranged("k", "l", 0), false}, {ranged("k", "l", 3), false}, {ranged("k", "l", 4), false}, {ranged("k", "l", 5), false}, {ranged("k", "l", 6), true}, {ranged("k", "l", 8), true},
		{ranged("k", "l", 9), false}, {ranged("k", "l", api.MaxSeq), false}, {ranged("k", "l", api.MaxSeq+1), false}, {ranged("k", "l", math.MaxUint64), false},
		{ranged("k", "k\x00", 6), true}, {ranged("j", "k", 6), false}, {ranged("j", "k\x00", 6), true}, {ranged("k\x00", "z", 6), false}, {ranged("a", "z", 6), true},
		{ranged("", "z", 6), false}, {ranged("k", "k", 6), false}, {ranged("l", "k", 6), false}, {ranged("k", "", 6), false}, {ranged("", "", 6), false}, {api.Tomb{}, false},
		{ranged("a", long[:api.MaxKey+1], 6), true}, {ranged("a", long, 6), false}, {ranged("\x00", "\xff", 6), true},
	} {
		want := "k v; "
		if c.hides {
			want = ""
		}
		for _, l := range [][]api.Tomb{{c.t}, {c.t, ranged("k", "l", 5)}, {ranged("a", "z", 9), ranged("", "z", 7), c.t, ranged("a", "z", 1)}} {
			if got := line(Seen(x, l, 8)); got != want {
				t.Errorf("%s: %q, want %q", brief(l), got, want)
			}
		}
	}
	far := ranged("a", "z", api.MaxSeq)
	if got := line(Seen(x, []api.Tomb{far}, api.MaxSeq)); got != "" {
		t.Errorf("at the greatest number: %q", got)
	}
	if got := line(Seen(x, []api.Tomb{far}, api.MaxSeq-1)); got != "k v; " {
		t.Errorf("just below it: %q", got)
	}
	if got := line(Seen([]api.Entry{put("k", api.MaxSeq)}, []api.Tomb{far}, math.MaxUint64)); got == "" {
		t.Error("a tomb of the entry's own number hides it")
	}
}

// P20.1: in any order of the entries, of which none are alike, and of the tombs.
func TestSeenOfAnyOrder(t *testing.T) {
	chance := rand.New(rand.NewSource(2011))
	for range 300 {
		s := chanceScene(chance)
		l := unlike(s.entries())
		want := plainSeen(l, s.tombs, s.seq)
		for range 6 {
			chance.Shuffle(len(l), func(i, j int) { l[i], l[j] = l[j], l[i] })
			chance.Shuffle(len(s.tombs), func(i, j int) { s.tombs[i], s.tombs[j] = s.tombs[j], s.tombs[i] })
			if got := Seen(l, s.tombs, s.seq); !slices.Equal(got, want) {
				t.Fatalf("%s: %s, want %s", brief(s), brief(got), brief(want))
			}
		}
	}
}

// unlike tells of entries that are alike the first one.
func unlike(l []api.Entry) []api.Entry {
	var out []api.Entry
	for _, x := range l {
		if !slices.ContainsFunc(out, func(y api.Entry) bool { return !isAhead(x, y) && !isAhead(y, x) }) {
			out = append(out, x)
		}
	}
	return out
}

// P20.1: so many that are alike that a sort that does not keep them in order shows it.
func TestSeenOfManyAlike(t *testing.T) {
	var l []api.Entry
	for i := range 500 {
		l = append(l, api.Entry{Key: []string{"a", "b", "c"}[i%3], Seq: uint64(i % 2), Kind: api.KindPut, Value: fmt.Sprint(i)})
	}
	if got := line(Seen(l, nil, 0)); got != "a 0; b 4; c 2; " {
		t.Errorf("at 0: %s", got)
	}
	if got := line(Seen(l, nil, 1)); got != "a 3; b 1; c 5; " {
		t.Errorf("at 1: %s", got)
	}
}

// P20.1: no entries, no tombs.
func TestSeenOfNothing(t *testing.T) {
	for _, l := range [][]api.Entry{nil, {}, make([]api.Entry, 0, 3), {del("a", 1)}, {put("a", 9)}} {
		for _, tombs := range [][]api.Tomb{nil, {}, {ranged("a", "b", 3)}, {{}}} {
			if got := Seen(l, tombs, 8); len(got) != 0 {
				t.Errorf("%s: %s", brief(l), brief(got))
			}
		}
	}
}

// P20.1, rules 4 and 8: what is handed in stays as it was, its spare room is neither read nor written, and what it becomes changes no answer; each answer is new memory, spare room too.
func TestSeenKeepsNothing(t *testing.T) {
	for name, s := range scenes() {
		want := s.seen()
		entries := append(s.entries(), put("", 0), put("a", 0), put("zz", 0))
		tombs := append(slices.Clone(s.tombs), ranged("\x00", "\xff\xff\xff", min(s.seq, api.MaxSeq)))
		l, r := entries[:len(entries)-3], tombs[:len(tombs)-1]
		wasEntries, wasTombs := slices.Clone(entries), slices.Clone(tombs)
		one, two := Seen(l, r, s.seq), Seen(l, r, s.seq)
		if !slices.Equal(one, want) || !slices.Equal(entries, wasEntries) || !slices.Equal(tombs, wasTombs) {
			t.Errorf("%s: %s; what was handed in: %s, %s", name, brief(one), brief(entries), brief(tombs))
		}
		for _, x := range two[len(two):cap(two)] {
			if x != (api.Op{}) {
				t.Errorf("%s: in the spare room: %+v", name, x)
			}
		}
		for i := range one[:cap(one)] {
			one[:cap(one)][i] = api.Op{Kind: 7, Key: "spoilt", Value: "spoilt"}
		}
		if !slices.Equal(two, want) || !slices.Equal(Seen(l, r, s.seq), want) {
			t.Errorf("%s: an answer was spoilt: %s, want %s", name, brief(two), brief(want))
		}
		clear(entries)
		clear(tombs)
		if !slices.Equal(two, want) {
			t.Errorf("%s: what was handed in was spoilt: %s, want %s", name, brief(two), brief(want))
		}
	}
}

// P20.4: entries and tombs with numbers above seq change nothing.
func TestWhatIsAbove(t *testing.T) {
	chance := rand.New(rand.NewSource(2041))
	for range 2000 {
		s := chanceScene(chance)
		want := Seen(s.entries(), s.tombs, s.seq)
		var l []api.Entry
		for _, x := range s.entries() {
			if x.Seq <= s.seq {
				l = append(l, x)
			}
		}
		var tombs []api.Tomb
		for _, x := range s.tombs {
			if x.Seq <= s.seq {
				tombs = append(tombs, x)
			}
		}
		if got := Seen(l, tombs, s.seq); !slices.Equal(got, want) {
			t.Fatalf("%s without what is above: %s, want %s", brief(s), brief(got), brief(want))
		}
		more := s
		more.dealt = append(slices.Clone(s.dealt), nil)
		for range 10 {
			x := chanceEntry(chance)
			x.Seq = s.seq + 1 + uint64(chance.Intn(3))
			more.dealt[len(s.dealt)] = append(more.dealt[len(s.dealt)], x)
			more.tombs = append(slices.Clone(more.tombs), ranged(chanceKey(chance), chanceKey(chance), x.Seq))
		}
		if got := Seen(more.entries(), more.tombs, s.seq); !slices.Equal(got, want) {
			t.Fatalf("%s: %s, want %s", brief(more), brief(got), brief(want))
		}
		bothWays(t, brief(more), more.view(), cut(want, s.least, s.limit))
	}
}

// isHidden tells whether an entry of a list, or a tomb, hides the one at a place.
func isHidden(l []api.Entry, tombs []api.Tomb, seq uint64, i int) bool {
	for n, x := range l {
		if x.Key == l[i].Key && x.Seq <= seq && (isAhead(x, l[i]) || n < i && !isAhead(l[i], x)) {
			return true
		}
	}
	return slices.ContainsFunc(tombs, func(t api.Tomb) bool { return hides(t, l[i], seq) })
}

// P20.4: what another one hides can be taken out, one by one, as long as those that hide it stay.
func TestWhatIsHidden(t *testing.T) {
	chance := rand.New(rand.NewSource(2042))
	taken := 0
	for range 2000 {
		s := chanceScene(chance)
		l := s.entries()
		want := Seen(l, s.tombs, s.seq)
		for {
			var hidden []int
			for i := range l {
				if isHidden(l, s.tombs, s.seq, i) {
					hidden = append(hidden, i)
				}
			}
			if len(hidden) == 0 {
				break
			}
			taken++
			i := hidden[chance.Intn(len(hidden))]
			l = slices.Delete(l, i, i+1)
			if got := Seen(l, s.tombs, s.seq); !slices.Equal(got, want) {
				t.Fatalf("%s: %s, want %s", brief(l), brief(got), brief(want))
			}
			s.dealt = [][]api.Entry{l}
			bothWays(t, brief(s), s.view(), cut(want, s.least, s.limit))
		}
	}
	if taken < 1000 {
		t.Errorf("only %d were hidden", taken)
	}
}

// history makes operations of all three kinds, one for each number from 1 on.
func history(chance *rand.Rand, many int) []api.Op {
	key := func() string { return string(rune('a' + chance.Intn(6))) }
	var ops []api.Op
	for range many {
		switch n := chance.Intn(6); {
		case n < 3:
			ops = append(ops, api.Op{Kind: api.KindPut, Key: key(), Value: fmt.Sprint("v", len(ops))})
		case n < 5:
			ops = append(ops, api.Op{Kind: api.KindDelete, Key: key()})
		default:
			ops = append(ops, api.Op{Kind: api.KindRange, Key: key(), Value: key() + "x"})
		}
	}
	return ops
}

// laid tells a history's entries and tombs.
func laid(ops []api.Op) ([]api.Entry, []api.Tomb) {
	var l []api.Entry
	var tombs []api.Tomb
	for i, x := range ops {
		seq := uint64(i + 1)
		if x.Kind == api.KindRange {
			tombs = append(tombs, ranged(x.Key, x.Value, seq))
		} else {
			l = append(l, api.Entry{Key: x.Key, Seq: seq, Kind: x.Kind, Value: x.Value})
		}
	}
	return l, tombs
}

// done tells what is seen behind an operation.
func done(l []api.Op, x api.Op) []api.Op {
	l = slices.DeleteFunc(slices.Clone(l), func(y api.Op) bool {
		return y.Key == x.Key && x.Kind != api.KindRange || x.Kind == api.KindRange && y.Key >= x.Key && y.Key < x.Value
	})
	if x.Kind == api.KindPut {
		at := 0
		for at < len(l) && l[at].Key < x.Key {
			at++
		}
		l = slices.Insert(l, at, x)
	}
	return l
}

// P20.5: what is seen at s + 1 is what is seen at s, with the operation of that number done: a put of a key that is there and of one that is not, a deletion, a tomb.
func TestOperations(t *testing.T) {
	chance := rand.New(rand.NewSource(205))
	for range 200 {
		ops := history(chance, 40)
		l, tombs := laid(ops)
		chance.Shuffle(len(l), func(i, j int) { l[i], l[j] = l[j], l[i] })
		chance.Shuffle(len(tombs), func(i, j int) { tombs[i], tombs[j] = tombs[j], tombs[i] })
		was := Seen(l, tombs, 0)
		if len(was) != 0 {
			t.Fatalf("at 0: %s", brief(was))
		}
		for i, x := range ops {
			seq := uint64(i + 1)
			now := Seen(l, tombs, seq)
			if want := done(was, x); !slices.Equal(now, want) {
				t.Fatalf("at %d, behind %+v: %s, want %s", seq, x, brief(now), brief(want))
			}
			bothWays(t, "a view", scene{dealt: [][]api.Entry{l[:len(l)/2], l[len(l)/2:]}, tombs: tombs, seq: seq}.view(), now)
			was = now
		}
	}
}

// P20.5: told one by one.
func TestOperationsOneByOne(t *testing.T) {
	ops := []api.Op{
		{Kind: api.KindPut, Key: "a", Value: "1"},
		{Kind: api.KindPut, Key: "b", Value: "2"},
		{Kind: api.KindPut, Key: "a", Value: "3"},
		{Kind: api.KindRange, Key: "a", Value: "b"},
		{Kind: api.KindDelete, Key: "a"},
		{Kind: api.KindPut, Key: "a", Value: "6"},
		{Kind: api.KindPut, Key: "c", Value: ""},
		{Kind: api.KindDelete, Key: "b"},
		{Kind: api.KindRange, Key: "a", Value: "c\x00"},
		{Kind: api.KindPut, Key: "b", Value: "10"},
	}
	l, tombs := laid(ops)
	for seq, want := range []string{"", "a 1; ", "a 1; b 2; ", "a 3; b 2; ", "b 2; ", "b 2; ", "a 6; b 2; ", "a 6; b 2; c ; ", "a 6; c ; ", "", "b 10; ", "b 10; "} {
		if got := line(Seen(l, tombs, uint64(seq))); got != want {
			t.Errorf("at %d: %q, want %q", seq, got, want)
		}
	}
}

// P20.1: anything.
func TestAnySeen(t *testing.T) {
	chance := rand.New(rand.NewSource(201))
	for range 20000 {
		s := chanceScene(chance)
		want := plainSeen(s.entries(), s.tombs, s.seq)
		if got := Seen(s.entries(), s.tombs, s.seq); !slices.Equal(got, want) {
			t.Fatalf("%s: %s, want %s", brief(s), brief(got), brief(want))
		}
	}
}
