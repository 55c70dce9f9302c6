package merge

import (
	"slices"
	"testing"

	"moraine/api"
)

// P19.3: the entries of all lists in the order of all, each once.
func TestAll(t *testing.T) {
	for name, l := range lists() {
		l = marked(l...)
		if got, want := All(l...), newPlain(l...).entries(); !slices.Equal(got, want) {
			t.Errorf("%s: %s, want %s", name, brief(got), brief(want))
		}
		slices.Reverse(l)
		if got, want := All(l...), newPlain(l...).entries(); !slices.Equal(got, want) {
			t.Errorf("%s, from behind: %s, want %s", name, brief(got), brief(want))
		}
	}
	l := marked(manyKinds(), manyKinds()[10:80], nil, manyKinds())
	if got, want := All(l...), newPlain(l...).entries(); !slices.Equal(got, want) {
		t.Errorf("many kinds: %d entries of %d: %s", len(got), len(want), brief(got))
	}
}

// P19.3: no lists, lists of nothing, and one.
func TestAllOfLittle(t *testing.T) {
	for _, l := range [][][]api.Entry{nil, {}, {nil}, {{}, nil}, {make([]api.Entry, 0, 3)}} {
		if got := All(l...); len(got) != 0 {
			t.Errorf("All of nothing: %s", brief(got))
		}
	}
	if got := All(); len(got) != 0 {
		t.Errorf("All of no lists: %s", brief(got))
	}
	x := []api.Entry{put("b", 1), del("a", 1), put("a", 2), put("a", 1)}
	if got := All(x); !slices.Equal(got, []api.Entry{put("a", 2), put("a", 1), del("a", 1), put("b", 1)}) {
		t.Errorf("All of one: %s", brief(got))
	}
}

// P19.3: of those that are alike the lesser list's first, of one list in its order.
func TestAllAlike(t *testing.T) {
	x := put("b", 2)
	l := marked([]api.Entry{x, put("c", 1), x}, nil, []api.Entry{x}, []api.Entry{put("a", 1), x, x})
	want := []api.Entry{l[3][0], l[0][0], l[0][2], l[2][0], l[3][1], l[3][2], l[0][1]}
	if got := All(l...); !slices.Equal(got, want) {
		t.Errorf("%s, want %s", brief(got), brief(want))
	}
	// So many that a sort that does not keep those that are alike in order shows it.
	var many [][]api.Entry
	var all []api.Entry
	for i := range 50 {
		part := slices.Repeat([]api.Entry{x}, i)
		many = append(many, part)
	}
	many = marked(many...)
	for _, part := range many {
		all = append(all, part...)
	}
	if got := All(many...); !slices.Equal(got, all) {
		t.Error("those that are alike changed places")
	}
	m, p := merged(many)
	bothWays(t, "many alike", m, p.entries())
}

// P19.3, rules 4 and 8: lists stay as they were, their spare room is not read, and what they become changes no answer; each answer is new memory, spare room too.
func TestAllKeepsNothing(t *testing.T) {
	for name, l := range lists() {
		l = marked(l...)
		want := newPlain(l...).entries()
		var given [][]api.Entry
		var stays []func() bool
		for _, x := range l {
			list, stay := roomy(x)
			given, stays = append(given, list), append(stays, stay)
		}
		lists := slices.Clone(given)
		one, two := All(given...), All(given...)
		spoil(one)
		_ = append(one, put("spoilt", 1))
		_ = append(one[:0], put("spoilt", 1))
		if !slices.Equal(two, want) || !slices.Equal(All(given...), want) {
			t.Errorf("%s: an answer was spoilt: %s, want %s", name, brief(two), brief(want))
		}
		for i := range given {
			if !stays[i]() || len(given[i]) != len(lists[i]) || &given[i][:1][0] != &lists[i][:1][0] {
				t.Errorf("%s: the list %d has changed", name, i)
			}
			spoil(given[i])
		}
		if !slices.Equal(two, want) {
			t.Errorf("%s: the lists were spoilt: %s, want %s", name, brief(two), brief(want))
		}
		for _, x := range two[len(two):cap(two)] {
			if x != (api.Entry{}) {
				t.Errorf("%s: in the spare room: %s", name, brief(x))
			}
		}
	}
}

// P19.3, rule 4: lists that stand in one memory, and one list twice.
func TestAllOfOneMemory(t *testing.T) {
	all := marked([]api.Entry{put("c", 1), put("a", 1), put("b", 1), put("a", 1), put("c", 1)})[0]
	was := slices.Clone(all)
	got := All(all[:2], all[1:4], all[2:], all[:2])
	want := newPlain(was[:2], was[1:4], was[2:], was[:2]).entries()
	if !slices.Equal(got, want) || !slices.Equal(all, was) {
		t.Errorf("%s, want %s; %s", brief(got), brief(want), brief(all))
	}
	spoil(all[:1])
	if !slices.Equal(got, want) {
		t.Error("the memory was spoilt")
	}
}
