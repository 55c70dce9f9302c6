package drop

import (
	"fmt"
	"math"
	"math/rand"
	"slices"
	"testing"

	"moraine/api"
)

// keeps holds what is kept against a text.
func keeps(t *testing.T, s scene, want string) {
	t.Helper()
	if got := told(s.kept()); got != want {
		t.Errorf("%s, snaps %v, below %v: kept %q, want %q", told(s.entries, s.tombs), s.rule.Snaps, s.rule.Below, got, want)
	}
}

// at5 is the rule of the chapter's examples.
func at5(below ...api.File) Rule { return Rule{Snaps: []uint64{5}, Below: below} }

// Example 1
func TestExampleOne(t *testing.T) {
	keeps(t, scene{entries: []api.Entry{put("a", 7), put("a", 5), put("a", 3)}, rule: at5()}, "a 7 put, a 5 put")
	keeps(t, scene{entries: []api.Entry{del("a", 4), put("a", 3)}, rule: at5()}, "")
	keeps(t, scene{entries: []api.Entry{del("a", 7), put("a", 4)}, rule: at5()}, "a 7 del, a 4 put")
}

// Example 2
func TestExampleTwo(t *testing.T) {
	b := []api.Entry{put("b", 2)}
	keeps(t, scene{b, []api.Tomb{ranged("a", "c", 4)}, at5()}, "")
	keeps(t, scene{b, []api.Tomb{ranged("a", "c", 6)}, at5()}, "b 2 put, [a c) 6")
}

// Example 3
func TestExampleThree(t *testing.T) {
	keeps(t, scene{entries: []api.Entry{del("a", 4)}, rule: at5(file("a", "b"))}, "a 4 del")
	keeps(t, scene{tombs: []api.Tomb{ranged("b", "c", 4)}, rule: at5(file("a", "b"))}, "")
}

// P21.2: the first entry of a key and a stripe is kept, the others are not, but in the last stripe.
func TestEntriesOfStripes(t *testing.T) {
	all := []api.Entry{put("b", 3), put("b", 9), put("b", 1), put("b", 7), put("b", 5), put("b", 4), put("b", 6), put("b", 8), put("b", 2)}
	for _, c := range []struct {
		snaps []uint64
		want  string
	}{
		{nil, "b 9 put, b 8 put, b 7 put, b 6 put, b 5 put, b 4 put, b 3 put, b 2 put, b 1 put"},
		{[]uint64{0}, "b 9 put, b 8 put, b 7 put, b 6 put, b 5 put, b 4 put, b 3 put, b 2 put, b 1 put"},
		{[]uint64{1}, "b 9 put, b 8 put, b 7 put, b 6 put, b 5 put, b 4 put, b 3 put, b 2 put, b 1 put"},
		{[]uint64{5}, "b 9 put, b 8 put, b 7 put, b 6 put, b 5 put"},
		{[]uint64{7, 3, 7}, "b 9 put, b 8 put, b 7 put, b 3 put"},
		{[]uint64{8}, "b 9 put, b 8 put"},
		{[]uint64{9}, "b 9 put"},
		{[]uint64{10}, "b 9 put"},
		{[]uint64{math.MaxUint64}, "b 9 put"},
		{[]uint64{math.MaxUint64, 0, 4, 6}, "b 9 put, b 6 put, b 4 put"},
	} {
		keeps(t, scene{entries: all, rule: Rule{Snaps: c.snaps}}, c.want)
	}
}

// P21.2: a deletion that nothing comes ahead of is left out of the stripe 0 alone, and if no file bears on its key.
func TestDeletions(t *testing.T) {
	for _, c := range []struct {
		x    api.Entry
		r    Rule
		want string
	}{
		{del("b", 4), Rule{Snaps: []uint64{5}}, ""},
		{del("b", 5), Rule{Snaps: []uint64{5}}, ""},
		{del("b", 6), Rule{Snaps: []uint64{5}}, "b 6 del"},
		{del("b", 4), Rule{}, "b 4 del"},
		{del("b", 4), Rule{Snaps: []uint64{3, 5}}, "b 4 del"},
		{del("b", 3), Rule{Snaps: []uint64{3, 5}}, ""},
		{del("b", 0), Rule{Snaps: []uint64{0}}, ""},
		{del("b", 1), Rule{Snaps: []uint64{0, 9}}, "b 1 del"},
		{del("b", math.MaxUint64), Rule{Snaps: []uint64{math.MaxUint64}}, ""},
		{del("b", 4), at5(file("b", "c")), "b 4 del"},
		{del("b", 4), at5(file("a", "b")), ""},
		{del("b", 4), at5(file("a", "b\x00")), "b 4 del"},
		{del("b", 4), at5(file("b\x00", "c")), ""},
		{del("b", 4), at5(file("b", "b")), ""},
		{del("b", 4), at5(file("c", "a")), ""},
		{del("b", 4), at5(file("x", "z"), file("a", "c"), file("b", "d")), "b 4 del"},
		{del("", 4), at5(), ""},
		{del("", 4), at5(file("", "a")), " 4 del"},
		{put("b", 4), at5(), "b 4 put"},
		{kind("b", 4, api.KindRange), at5(), "b 4 2"},
		{kind("b", 4, api.KindSeek), at5(), "b 4 255"},
		{kind("b", 4, -1), at5(), "b 4 -1"},
		{kind("b", 4, math.MaxInt), at5(), fmt.Sprint("b 4 ", math.MaxInt)},
	} {
		keeps(t, scene{entries: []api.Entry{c.x}, rule: c.r}, c.want)
	}
	keeps(t, scene{entries: []api.Entry{{Key: "b", Seq: 4, Value: "a deletion with a value"}}, rule: at5()}, "")
}

// P21.2: which tombs leave an entry out: of its stripe, with a greater number, over its key.
func TestTombsOverEntries(t *testing.T) {
	for _, c := range []struct {
		x     api.Entry
		tomb  api.Tomb
		snaps []uint64
		isOut bool
	}{
		{put("b", 4), ranged("a", "c", 3), []uint64{9}, false},
		{put("b", 4), ranged("a", "c", 4), []uint64{9}, false},
		{put("b", 4), ranged("a", "c", 5), []uint64{9}, true},
		{put("b", 4), ranged("a", "c", 9), []uint64{9}, true},
		{put("b", 4), ranged("a", "c", 10), []uint64{9}, false},
		{put("b", 4), ranged("a", "c", 5), []uint64{4}, false},
		{put("b", 4), ranged("a", "c", 5), []uint64{4, 9}, false},
		{put("b", 4), ranged("a", "c", 5), []uint64{5}, true},
		{put("b", 4), ranged("a", "c", 5), []uint64{2, 3, 5}, true},
		{put("b", 4), ranged("a", "c", 5), nil, false},
		{put("b", 4), ranged("a", "c", 5), []uint64{3}, false},
		{put("b", 4), ranged("b", "c", 5), []uint64{9}, true},
		{put("b", 4), ranged("b", "b\x00", 5), []uint64{9}, true},
		{put("b", 4), ranged("b\x00", "c", 5), []uint64{9}, false},
		{put("b", 4), ranged("a", "b", 5), []uint64{9}, false},
		{put("b", 0), ranged("a", "c", 0), []uint64{9}, false},
		{put("b", 0), ranged("a", "c", 1), []uint64{9}, true},
		{put("b", api.MaxSeq-1), ranged("a", "c", api.MaxSeq), []uint64{math.MaxUint64}, true},
		{put("b", api.MaxSeq), ranged("a", "c", api.MaxSeq), []uint64{math.MaxUint64}, false},
		{put("b", 4), ranged("a", "c", api.MaxSeq+1), []uint64{math.MaxUint64}, false},
		{put("b", 4), ranged("", "c", 5), []uint64{9}, false},
		{put("", 4), ranged("", "c", 5), []uint64{9}, false},
		{put("b", 4), ranged("c", "a", 5), []uint64{9}, false},
		{put("b", 4), ranged("a", string(make([]byte, 5000)), 5), []uint64{9}, false},
		{kind("b", 4, 2), ranged("a", "c", 5), []uint64{9}, true},
		{kind("b", 4, -7), ranged("a", "c", 5), []uint64{9}, true},
	} {
		s := scene{[]api.Entry{c.x}, []api.Tomb{c.tomb}, Rule{Snaps: c.snaps, Below: []api.File{file("a", "z")}}}
		if l, _ := s.kept(); (len(l) == 0) != c.isOut {
			t.Errorf("%s, tomb %s, snaps %v: left out %v, want %v", told(s.entries, nil), brief(c.tomb), c.snaps, len(l) == 0, c.isOut)
		}
	}
}

// P21.2: a tomb is left out of the stripe 0 alone, if it is not the last one, and no file below overlaps it; one that is not valid always is.
func TestTombs(t *testing.T) {
	for _, c := range []struct {
		tomb api.Tomb
		r    Rule
		want string
	}{
		{ranged("b", "d", 4), Rule{}, "[b d) 4"},
		{ranged("b", "d", 0), Rule{}, "[b d) 0"},
		{ranged("b", "d", 4), at5(), ""},
		{ranged("b", "d", 5), at5(), ""},
		{ranged("b", "d", 6), at5(), "[b d) 6"},
		{ranged("b", "d", 4), Rule{Snaps: []uint64{3, 5}}, "[b d) 4"},
		{ranged("b", "d", 3), Rule{Snaps: []uint64{5, 3}}, ""},
		{ranged("b", "d", 0), Rule{Snaps: []uint64{0}}, ""},
		{ranged("b", "d", 1), Rule{Snaps: []uint64{0}}, "[b d) 1"},
		{ranged("b", "d", api.MaxSeq), Rule{Snaps: []uint64{math.MaxUint64}}, ""},
		{ranged("b", "d", 4), at5(file("a", "b")), ""},
		{ranged("b", "d", 4), at5(file("a", "b\x00")), "[b d) 4"},
		{ranged("b", "d", 4), at5(file("d", "e")), ""},
		{ranged("b", "d", 4), at5(file("c\xff", "e")), "[b d) 4"},
		{ranged("b", "d", 4), at5(file("c", "cc")), "[b d) 4"},
		{ranged("b", "d", 4), at5(file("a", "z")), "[b d) 4"},
		{ranged("b", "d", 4), at5(file("b", "d")), "[b d) 4"},
		{ranged("b", "d", 4), at5(file("a", "b"), file("d", "e")), ""},
		{ranged("b", "d", 4), at5(file("a", "b"), file("d", "e"), file("a", "c")), "[b d) 4"},
		{ranged("b", "d", 4), at5(file("c", "c")), "[b d) 4"}, // Its Least is below the End, its Limit above the Begin: nothing more is asked.
		{ranged("b", "d", 4), at5(file("b", "b")), ""},
		{ranged("b", "d", 4), at5(file("e", "c")), ""},
		{ranged("b", "d", 4), at5(file("c", "a")), ""},
		{ranged("", "d", 9), at5(file("a", "z")), ""},
		{ranged("d", "b", 9), at5(file("a", "z")), ""},
		{ranged("b", "b", 9), Rule{}, ""},
		{ranged("b", "d", api.MaxSeq+1), at5(file("a", "z")), ""},
		{ranged("b", "d", math.MaxUint64), Rule{}, ""},
		{ranged("b", "c"+string(make([]byte, api.MaxKey+1)), 9), Rule{}, ""},
	} {
		keeps(t, scene{tombs: []api.Tomb{c.tomb}, rule: c.r}, c.want)
	}
}

// P21.2: entries in the order of Sorted, tombs in their own, those that are alike, too.
func TestOrder(t *testing.T) {
	keeps(t, scene{
		entries: []api.Entry{put("c", 9), del("a", 8), put("a", 9), del("a", 9), kind("a", 9, 2), put("b", 8), put("", 9), put("a\x00", 7)},
		tombs:   []api.Tomb{ranged("x", "z", 9), ranged("a", "b", 7), ranged("x", "z", 9), ranged("q", "r", 3), ranged("b", "c", 8)},
		rule:    at5(),
	}, " 9 put, a 9 2, a 9 put, a 9 del, a 8 del, a\x00 7 put, b 8 put, c 9 put, [x z) 9, [a b) 7, [x z) 9, [b c) 8")
	alike := marked([]api.Entry{put("b", 9), put("a", 9), put("b", 9), put("a", 3), put("a", 3), put("b", 9)})
	l, _ := Entries(alike, nil, at5())
	if want := []api.Entry{alike[1], alike[3], alike[0], alike[2], alike[5]}; !slices.Equal(l, want) {
		t.Errorf("alike: %v, want %v", l, want)
	}
}

// P21.2: of each number the greatest kind comes ahead, and stays.
func TestKindsOfOneNumber(t *testing.T) {
	keeps(t, scene{entries: []api.Entry{del("a", 4), put("a", 4)}, rule: at5()}, "a 4 put")
	keeps(t, scene{entries: []api.Entry{put("a", 4), kind("a", 4, 2), del("a", 4)}, rule: at5()}, "a 4 2")
	keeps(t, scene{entries: []api.Entry{del("a", 4), kind("a", 4, -1)}, rule: at5()}, "")
	keeps(t, scene{entries: []api.Entry{kind("a", 4, -1), del("a", 4)}, rule: at5(file("a", "b"))}, "a 4 del")
}

// P21.2: what is left out has others left out, too.
func TestLeftOutLeavesOut(t *testing.T) {
	// A deletion that is left out itself.
	keeps(t, scene{entries: []api.Entry{put("a", 2), del("a", 4), put("a", 3)}, rule: at5()}, "")
	// A put under a tomb, and one of the same key and stripe under the put alone.
	keeps(t, scene{[]api.Entry{put("a", 4), put("a", 1)}, []api.Tomb{ranged("a", "b", 5)}, at5()}, "")
	// An entry ahead that is left out by one further ahead.
	keeps(t, scene{entries: []api.Entry{put("a", 1), put("a", 2), put("a", 3)}, rule: at5()}, "a 3 put")
	// Tombs of the stripe 0, which no file overlaps.
	keeps(t, scene{[]api.Entry{put("a", 1), put("b", 3)}, []api.Tomb{ranged("a", "b", 2), ranged("a", "c", 3), ranged("a", "c", 1)}, at5()}, "b 3 put")
	// The last stripe leaves nothing out, neither there nor below it.
	keeps(t, scene{[]api.Entry{put("a", 6), put("a", 7), del("a", 8), put("a", 5)}, []api.Tomb{ranged("a", "b", 9), ranged("a", "b", 7)}, at5()}, "a 8 del, a 7 put, a 6 put, a 5 put, [a b) 9, [a b) 7")
	// A tomb between two snapshots takes those between them alone.
	keeps(t, scene{[]api.Entry{put("a", 2), put("a", 4), put("a", 6), put("a", 9)}, []api.Tomb{ranged("a", "b", 7)}, Rule{Snaps: []uint64{3, 8}}}, "a 9 put, a 2 put, [a b) 7")
}

// P21.2: entries are kept as they are, with what they hold.
func TestKeptWhole(t *testing.T) {
	l := []api.Entry{{Key: "a", Seq: 9, Kind: 1}, {Key: "a", Seq: 8, Value: "of a deletion"}, {Key: "b", Seq: 2, Kind: 77, Value: "\x00\xff"}}
	if got, _ := Entries(l, nil, at5()); !slices.Equal(got, l) {
		t.Errorf("%+v, want %+v", got, l)
	}
}

// holds holds what is kept against the chapter's words.
func holds(t *testing.T, what string, s scene) {
	t.Helper()
	l, d := s.kept()
	if want := s.plainEntries(); !slices.Equal(l, want) {
		t.Fatalf("%s: %s, tombs %s, rule %s: entries %s, want %s", what, brief(s.entries), brief(s.tombs), brief(s.rule), brief(l), brief(want))
	}
	if want := s.plainTombs(); !slices.Equal(d, want) {
		t.Fatalf("%s: %s, tombs %s, rule %s: tombs %s, want %s", what, brief(s.entries), brief(s.tombs), brief(s.rule), brief(d), brief(want))
	}
}

// P21.2: entries and tombs of each sort, with rules of each sort.
func TestEntries(t *testing.T) {
	eachScene(func(what string, s scene) { holds(t, what, s) })
}

// P21.2: any entries, tombs and rules.
func TestEntriesOfAny(t *testing.T) {
	chance := rand.New(rand.NewSource(213))
	for i := range 20000 {
		holds(t, fmt.Sprint("chance ", i), chanceScene(chance))
	}
}

// P21.2: in whichever order entries come that are unlike, the same ones are kept.
func TestEntriesInAnyOrder(t *testing.T) {
	chance := rand.New(rand.NewSource(214))
	for name, s := range lists() {
		s.rule = Rule{Snaps: []uint64{6, 3}, Below: []api.File{file("b", "c")}}
		if name == "alike" {
			continue
		}
		want := told(s.kept())
		s.entries = slices.Clone(s.entries)
		for range 20 {
			chance.Shuffle(len(s.entries), func(i, j int) { s.entries[i], s.entries[j] = s.entries[j], s.entries[i] })
			l, _ := s.kept()
			if got := told(l, s.plainTombs()); got != want {
				t.Fatalf("%s: %s, want %s", name, brief(got), brief(want))
			}
		}
	}
}

// P21.2: many of all.
func TestManyEntries(t *testing.T) {
	var s scene
	for i := range 1 << 16 {
		s.entries = append(s.entries, put(fmt.Sprintf("%04d", i%(1<<13)), uint64(i)))
	}
	for i := range 64 {
		s.tombs = append(s.tombs, ranged(fmt.Sprintf("%04d", i*100), fmt.Sprintf("%04d", i*100+50), uint64(i)<<10+5))
	}
	for i := range 100 {
		s.rule.Snaps = append(s.rule.Snaps, uint64((i+1)*601))
	}
	l, d := s.kept()
	last := 0
	for i, x := range l {
		if i > 0 && compare(l[i-1], x) >= 0 {
			t.Fatalf("%v ahead of %v", l[i-1], x)
		}
		if isOfLast(s.rule.Snaps, x.Seq) {
			last++
		}
	}
	if want := 1<<16 - 1 - 100*601; last != want || len(d) != 63 {
		t.Errorf("%d of the last stripe, want %d; %d tombs", last, want, len(d))
	}
}
