package version

import (
	"reflect"
	"slices"
	"testing"

	"moraine/api"
)

// allCalls calls all on levels and an edit, and tells what came of them.
func allCalls(l api.Levels, e api.Edit) []any {
	applied, err := Apply(l, e)
	level, x, ok := Find(l, 4)
	out := []any{Valid(l), applied, err, level, x, ok, Files(l), Numbers(l), Same(l, l), Asks(l, "c")}
	for level := range 6 {
		out = append(out, Size(l, level), Below(l, level), Over(l, level, "a", "k"), Over(l, level, "", ""))
	}
	for _, files := range l {
		least, limit, ok := Span(files)
		out = append(out, least, limit, ok)
	}
	return out
}

// filledEdit tells the same edit with spare room that is not empty, and a call that tells whether all of it is still as it was.
func filledEdit(e api.Edit) (api.Edit, func() bool) {
	g, c := make([]api.Place, len(e.Gone), len(e.Gone)+3), make([]api.Added, len(e.Come), len(e.Come)+3)
	copy(g, e.Gone)
	copy(c, e.Come)
	for i := range 3 {
		g[:cap(g)][len(g)+i], c[:cap(c)][len(c)+i] = gone(0, 4), come(0, f(900, "a", "b"))
	}
	wantG, wantC := slices.Clone(g[:cap(g)]), slices.Clone(c[:cap(c)])
	e.Gone, e.Come = g, c
	return e, func() bool {
		return slices.Equal(wantG, g[:cap(g)]) && slices.Equal(wantC, c[:cap(c)])
	}
}

func editOfWide() api.Edit {
	return api.Edit{Log: 1, Gone: []api.Place{gone(2, 2), gone(0, 4)}, Come: []api.Added{come(0, f(14, "a", "b")), come(3, f(15, "m", "n")), come(3, f(2, "c", "d")), come(0, f(3, "a", "b"))}}
}

// Rule 4: what is handed in stays as it was, its spare room too, and that room changes no answer.
func TestHandedInStays(t *testing.T) {
	wrong := wide()
	wrong[0][1].Number = 40
	for _, l := range []api.Levels{wide(), wrong} {
		for _, e := range []api.Edit{editOfWide(), {}, {Gone: []api.Place{gone(0, 11), gone(0, 77)}}, {Come: []api.Added{come(3, f(30, "p", "q")), come(9, f(31, "a", "b"))}}} {
			roomy, levelsStay := filled(l)
			roomyEdit, editStays := filledEdit(e)
			want, got := allCalls(copied(l), e), allCalls(roomy, roomyEdit)
			if !reflect.DeepEqual(got, want) {
				t.Errorf("with spare room: %s, want %s", brief(got), brief(want))
			}
			if !levelsStay() || !editStays() {
				t.Errorf("changed: %s or %s", brief(roomy), brief(roomyEdit))
			}
		}
	}
}

// Rule 4: levels that stand in one memory one behind the other are not mixed up.
func TestLevelsOfOneMemory(t *testing.T) {
	all := slices.Concat(begun()...)
	l := api.Levels{all[:2], all[2:]}
	e := api.Edit{Gone: []api.Place{gone(0, 3)}, Come: []api.Added{come(0, f(6, "a", "b")), come(0, f(7, "a", "b")), come(1, f(8, "0", "a"))}}
	expectApply(t, l, e, api.OK)
	if !same(l, begun()) || !slices.Equal(all, slices.Concat(begun()...)) {
		t.Errorf("changed: %s", brief(all))
	}
}

// Rule 4: nothing of what is handed in is kept: it may change behind each call.
func TestNotKept(t *testing.T) {
	l, e := wide(), editOfWide()
	got, want := allCalls(l, e), allCalls(wide(), editOfWide())
	spoil(l)
	for i := range e.Gone {
		e.Gone[i] = gone(-7, -7)
	}
	for i := range e.Come {
		e.Come[i] = come(-7, f(-7, "spoilt", ""))
	}
	if !reflect.DeepEqual(got, want) {
		t.Errorf("%s, want %s", brief(got), brief(want))
	}
	if again := allCalls(wide(), editOfWide()); !reflect.DeepEqual(again, want) {
		t.Errorf("asked again: %s, want %s", brief(again), brief(want))
	}
}

// Rule 4: each answer is new memory, spare room too: changed, it changes nothing that was handed in and no other answer.
func TestAnswersAreNew(t *testing.T) {
	roomy, levelsStay := filled(wide())
	want := allCalls(wide(), editOfWide())
	for round := range 3 {
		applied, _ := Apply(roomy, editOfWide())
		spoil(applied)
		unchanged, _ := Apply(roomy, api.Edit{})
		spoil(unchanged)
		for level := -1; level < 6; level++ {
			spoilFiles(Below(roomy, level))
			spoilFiles(Over(roomy, level, "", ""))
			spoilFiles(Over(roomy, level, "b", "d"))
			spoilFiles(Over(roomy, level, "x", "y"))
		}
		numbers, asks := Numbers(roomy), Asks(roomy, "c")
		for i := range numbers[:cap(numbers)] {
			numbers[:cap(numbers)][i] = -7
		}
		for i := range asks[:cap(asks)] {
			asks[:cap(asks)][i] = gone(-7, -7)
		}
		if !levelsStay() {
			t.Fatalf("round %d: changed: %s", round, brief(roomy))
		}
		if got := allCalls(roomy, editOfWide()); !reflect.DeepEqual(got, want) {
			t.Errorf("round %d: %s, want %s", round, brief(got), brief(want))
		}
	}
}

// Rule 4: no two lists of an answer share memory, their spare room neither.
func TestListsOfAnAnswer(t *testing.T) {
	want, _ := Apply(wide(), editOfWide())
	for level := range want {
		got, _ := Apply(wide(), editOfWide())
		spoilFiles(got[level])
		for other := range got {
			if other != level && !slices.Equal(got[other], want[other]) {
				t.Errorf("level %d spoilt: level %d is %s", level, other, brief(got[other]))
			}
		}
		got, _ = Apply(wide(), editOfWide())
		_ = append(got[level], f(-7, "spoilt", ""))
		if !same(got, want) {
			t.Errorf("level %d put on: %s", level, brief(got))
		}
	}
}
