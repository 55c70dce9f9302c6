package drop

import (
	"fmt"
	"maps"
	"math/rand"
	"slices"
	"testing"

	"moraine/api"
)

// older are entries and tombs that lie in files below.
type older struct {
	entries []api.Entry
	tombs   []api.Tomb
}

// lookedAt are the numbers at which nothing may be missing: all snaps, and some that are not below all numbers there are.
func (s scene) lookedAt(o older) []uint64 {
	var top uint64
	for _, x := range slices.Concat(s.entries, o.entries) {
		top = max(top, x.Seq)
	}
	for _, x := range slices.Concat(s.tombs, o.tombs) {
		top = max(top, x.Seq)
	}
	out := append(slices.Clone(s.rule.Snaps), top)
	if top < 1<<63 {
		out = append(out, top+1, top+100)
	}
	return out
}

// unseen holds what is seen of what is kept against what is seen of all.
func unseen(t *testing.T, what string, s scene, o older) {
	t.Helper()
	l, d := s.kept()
	for _, seq := range s.lookedAt(o) {
		got := plainSeen(slices.Concat(l, o.entries), slices.Concat(d, o.tombs), seq)
		want := plainSeen(slices.Concat(s.entries, o.entries), slices.Concat(s.tombs, o.tombs), seq)
		if !maps.Equal(got, want) {
			t.Fatalf("%s: %s, tombs %s, rule %s, below %s: at %d %s, want %s", what, brief(s.entries), brief(s.tombs), brief(s.rule), brief(o), seq, brief(got), brief(want))
		}
	}
}

// P21.3: with nothing below.
func TestNobodySees(t *testing.T) {
	eachScene(func(what string, s scene) { unseen(t, what, s, older{}) })
}

// P21.3: a value below that a deletion or a tomb hides must stay hidden, at each number.
func TestNobodySeesWhatLiesBelow(t *testing.T) {
	o := older{[]api.Entry{put("a", 1), put("b", 1), put("c", 1), put("d", 1)}, nil}
	whole := []api.File{file("a", "d\x00")}
	for _, snaps := range [][]uint64{nil, {0}, {1}, {2}, {3}, {4}, {5}, {2, 4}, {1, 2, 3, 4, 5}, {9}} {
		r := Rule{Snaps: snaps, Below: whole}
		unseen(t, "a deletion", scene{[]api.Entry{del("a", 2), del("b", 3), del("c", 5)}, nil, r}, o)
		unseen(t, "a deletion and a put", scene{[]api.Entry{del("a", 2), put("a", 3), del("b", 4), put("b", 3)}, nil, r}, o)
		unseen(t, "a tomb", scene{nil, []api.Tomb{ranged("a", "c", 3), ranged("c", "d", 2)}, r}, o)
		unseen(t, "a tomb over entries", scene{[]api.Entry{put("a", 2), put("b", 4), del("b", 3)}, []api.Tomb{ranged("a", "c", 3), ranged("b", "d", 5)}, r}, o)
		unseen(t, "another kind", scene{[]api.Entry{kind("a", 2, 2), kind("b", 4, 255), kind("c", 3, -1)}, nil, r}, o)
	}
}

// newest makes of older ones such as are allowed below: of each key their numbers are less than all others of that key.
func newest(s scene, o older) older {
	var out older
	for _, x := range o.entries {
		if s.isBelowAll(x.Key, x.Key+"\x00", x.Seq) {
			out.entries = append(out.entries, x)
		}
	}
	for _, x := range o.tombs {
		if isValid(x) && s.isBelowAll(x.Begin, x.End, x.Seq) {
			out.tombs = append(out.tombs, x)
		}
	}
	return out
}

// isBelowAll tells whether a number is less than those of all entries and tombs of keys from begin up to end.
func (s scene) isBelowAll(begin, end string, seq uint64) bool {
	for _, x := range s.entries {
		if x.Key >= begin && x.Key < end && x.Seq <= seq {
			return false
		}
	}
	for _, x := range s.tombs {
		if isValid(x) && x.Begin < end && begin < x.End && x.Seq <= seq {
			return false
		}
	}
	return true
}

// inFiles tells files in which older ones lie: each alone in one, or all in one.
func (o older) inFiles(isOne bool) []api.File {
	var out []api.File
	for _, x := range o.entries {
		out = append(out, file(x.Key, x.Key+"\x00"))
	}
	for _, x := range o.tombs {
		out = append(out, file(x.Begin, x.End))
	}
	if !isOne || len(out) == 0 {
		return out
	}
	one := out[0]
	for _, f := range out {
		one.Least, one.Limit = min(one.Least, f.Least), max(one.Limit, f.Limit)
	}
	return []api.File{one}
}

// P21.3: any entries, tombs and snaps, with any older ones in files below.
func TestNobodySeesOfAny(t *testing.T) {
	chance := rand.New(rand.NewSource(215))
	withOlder := 0
	for i := range 20000 {
		s := chanceScene(chance)
		for n := range s.entries {
			s.entries[n].Seq += 3
		}
		for n := range s.tombs {
			s.tombs[n].Seq += 3
		}
		o := newest(s, older{chanceEntries(chance, 8, 8), chanceTombs(chance, 3, 8)})
		for n := range o.entries {
			o.entries[n].Value += " below"
		}
		s.rule.Below = o.inFiles(i%2 == 0)
		withOlder += min(1, len(o.entries))
		unseen(t, fmt.Sprint("chance ", i), s, o)
	}
	if withOlder < 5000 {
		t.Errorf("just %d had something below", withOlder)
	}
}

// P21.4: of what was kept all is kept.
func TestOnceIsEnough(t *testing.T) {
	again := func(what string, s scene) {
		t.Helper()
		l, d := s.kept()
		l2, d2 := Entries(l, d, s.rule)
		if !slices.Equal(l, l2) || !slices.Equal(d, d2) {
			t.Fatalf("%s: rule %s: kept %s and %s, then %s and %s", what, brief(s.rule), brief(l), brief(d), brief(l2), brief(d2))
		}
	}
	eachScene(again)
	chance := rand.New(rand.NewSource(216))
	for i := range 10000 {
		again(fmt.Sprint("chance ", i), chanceScene(chance))
	}
}

// roomy is a list with spare room behind it that is filled.
func roomy[T any](l []T, fill T) []T {
	out := append(slices.Clone(l), fill, fill, fill)
	return out[:len(l)]
}

// Rules 4 and 8: what is handed in stays as it was, its spare room too, which isn't read.
func TestHandedInStays(t *testing.T) {
	for name, c := range lists() {
		for _, r := range []Rule{{Snaps: []uint64{7, 3, 7}, Below: []api.File{file("b", "c"), file("a", "b")}}, {}} {
			s := scene{roomy(c.entries, put("b", 4)), roomy(c.tombs, ranged("a", "z", 6)), Rule{roomy(r.Snaps, 5), roomy(r.Below, file("", "\xff"))}}
			c.rule = r
			holds(t, name, c)
			l, d := s.kept()
			if !slices.Equal(l, c.plainEntries()) || !slices.Equal(d, c.plainTombs()) {
				t.Errorf("%s: spare room was read", name)
			}
			Stripe(s.rule.Snaps, 5)
			Bears(s.rule.Below, "b")
			stays(t, name, s.entries, c.entries, put("b", 4))
			stays(t, name, s.tombs, c.tombs, ranged("a", "z", 6))
			stays(t, name, s.rule.Snaps, r.Snaps, 5)
			stays(t, name, s.rule.Below, r.Below, file("", "\xff"))
		}
	}
	if Stripe(roomy([]uint64{9}, 1), 5) != 0 || Bears(roomy(nil, file("a", "z")), "b") {
		t.Error("Stripe or Bears read spare room")
	}
}

func stays[T comparable](t *testing.T, what string, l, was []T, fill T) {
	t.Helper()
	if !slices.Equal(l, was) || !slices.Equal(l[len(l):len(l)+3], []T{fill, fill, fill}) {
		t.Errorf("%s: was %s, is %s", what, brief(was), brief(l[:len(l)+3]))
	}
}

// Rule 4: each answer is new memory, its spare room zero: nothing hangs together with what was handed in or with another answer.
func TestAnswersAreNew(t *testing.T) {
	eachScene(func(what string, c scene) {
		s := scene{slices.Clone(c.entries), slices.Clone(c.tombs), Rule{slices.Clone(c.rule.Snaps), slices.Clone(c.rule.Below)}}
		l, d := s.kept()
		l2, d2 := s.kept()
		spare(t, what, l)
		spare(t, what, d)
		wipe(s.entries)
		wipe(s.tombs)
		wipe(s.rule.Snaps)
		wipe(s.rule.Below)
		wipe(l2[:cap(l2)])
		wipe(d2[:cap(d2)])
		if !slices.Equal(l, c.plainEntries()) || !slices.Equal(d, c.plainTombs()) {
			t.Fatalf("%s: an answer changed", what)
		}
		wipe(l[:cap(l)])
		wipe(d[:cap(d)])
		holds(t, what, c)
	})
}

func wipe[T any](l []T) { clear(l) }

func spare[T comparable](t *testing.T, what string, l []T) {
	t.Helper()
	var zero T
	for _, x := range l[len(l):cap(l)] {
		if x != zero {
			t.Fatalf("%s: spare room has %s", what, brief(x))
		}
	}
}
