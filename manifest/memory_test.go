package manifest

import (
	"reflect"
	"slices"
	"testing"

	"moraine/api"
	"moraine/disk"
)

// filled tells the same state with spare room that is not empty, in the levels' list and in each of its lists, and a call that tells whether all of it is still as it was.
func filled(s State) (State, func() bool) {
	all := make(api.Levels, len(s.Levels)+2)
	for i := range all {
		list := make([]api.File, 0, 40)
		if i < len(s.Levels) {
			list = append(list, s.Levels[i]...)
		}
		for n := range 3 {
			list[:cap(list)][len(list)+n] = f(900+10*i+n, "a", "zz")
		}
		all[i] = list
	}
	var want api.Levels
	for _, list := range all {
		want = append(want, slices.Clone(list[:cap(list)]))
	}
	s.Levels = all[:len(s.Levels)]
	return s, func() bool {
		return slices.EqualFunc(all, want, func(list, w []api.File) bool { return reflect.DeepEqual(list[:cap(list)], w) })
	}
}

// filledEdit tells the same edit with spare room that is not empty, and a call that tells whether all of it is still as it was.
func filledEdit(e api.Edit) (api.Edit, func() bool) {
	g, c := make([]api.Place, len(e.Gone), len(e.Gone)+3), make([]api.Added, len(e.Come), len(e.Come)+3)
	copy(g, e.Gone)
	copy(c, e.Come)
	for i := range 3 {
		g[:cap(g)][len(g)+i], c[:cap(c)][len(c)+i] = gone(0, 4), come(0, f(900, "a", "b"))
	}
	wantG, wantC := slices.Clone(g[:cap(g)]), slices.Clone(c[:cap(c)])
	e.Gone, e.Come = g, c
	return e, func() bool {
		return slices.Equal(wantG, g[:cap(g)]) && slices.Equal(wantC, c[:cap(c)])
	}
}

// spoil changes all that a state's levels reach, their spare room too.
func spoil(s State) {
	for _, files := range s.Levels[:cap(s.Levels)] {
		for i := range files[:cap(files)] {
			files[:cap(files)][i] = f(-7, "spoilt", "")
		}
	}
	for i := range s.Levels[:cap(s.Levels)] {
		s.Levels[:cap(s.Levels)][i] = []api.File{f(-7, "spoilt", "")}
	}
}

func spoilEdit(e api.Edit) {
	for i := range e.Gone[:cap(e.Gone)] {
		e.Gone[:cap(e.Gone)][i] = gone(-7, -7)
	}
	for i := range e.Come[:cap(e.Come)] {
		e.Come[:cap(e.Come)][i] = come(-7, f(-7, "spoilt", ""))
	}
}

// wideEdit is an edit that fits wide.
func wideEdit() api.Edit {
	return api.Edit{Log: 20, Gone: []api.Place{gone(2, 9), gone(0, 4)}, Come: []api.Added{come(0, f(14, "a", "b")), come(3, f(15, "m", "n")), come(3, f(9, "c", "d"))}}
}

// Rule 4: the state that Begin is handed stays as it was, and may change behind it, whether Begin goes well or not.
func TestBeginHandedIn(t *testing.T) {
	bent := wide()
	bent.Levels[0][1].Number = 3
	for _, s := range []State{wide(), small(), bent} {
		want := s
		want.Levels, _ = plainApply(s.Levels, api.Edit{})
		for after := range 5 {
			x := newPair(t, 10000)
			x.both(func(d *disk.Disk) { d.Refuse(after, 1) })
			roomy, stays := filled(s)
			_, e := plainBegin(x.p.Clone(), 64, s)
			x.begin(64, roomy, e)
			if !stays() {
				t.Errorf("changed: %s", brief(roomy))
			}
			spoil(roomy)
			x.look("the state was spoilt")
			if e == api.OK {
				if got := x.m.State(); !same(got, want) {
					t.Errorf("State is %s, want %s", brief(got), brief(want))
				}
				x.back()
				x.both(func(d *disk.Disk) { d.Refuse(0, 0) })
				x.append(api.Edit{Log: 5}, api.OK)
				x.back()
			}
		}
	}
}

// Rule 4: levels that stand in one memory one behind the other are not mixed up.
func TestLevelsOfOneMemory(t *testing.T) {
	all := []api.File{f(3, "a", "c"), f(5, "b", "d"), f(2, "a", "b"), f(4, "b", "c")}
	want := slices.Clone(all)
	s := State{Levels: api.Levels{all[:2], all[2:]}, Number: 1}
	x := begun(t, 64, s)
	x.append(api.Edit{Come: []api.Added{come(0, f(6, "a", "b")), come(0, f(1, "a", "b")), come(1, f(8, "0", "a"))}}, api.OK)
	x.back()
	if !slices.Equal(all, want) {
		t.Errorf("changed: %s", brief(all))
	}
}

// Rule 4: the edit that Append is handed stays as it was, and may change behind it, whether Append goes well or not.
func TestAppendHandedIn(t *testing.T) {
	notValid, unfit := wideEdit(), wideEdit()
	notValid.Log, unfit.Gone[0].Level = -1, 1
	for _, c := range []struct {
		e       api.Edit
		refused int
		want    api.Errno
	}{{wideEdit(), 0, api.OK}, {wideEdit(), 1, api.ErrNoSpace}, {notValid, 0, api.ErrArg}, {unfit, 0, api.ErrVersion}} {
		x := begun(t, 64, wide())
		x.both(func(d *disk.Disk) { d.Refuse(0, c.refused) })
		roomy, stays := filledEdit(c.e)
		x.append(roomy, c.want)
		if !stays() {
			t.Errorf("changed: %s", brief(roomy))
		}
		want := x.m.State()
		spoilEdit(roomy)
		if got := x.m.State(); !same(got, want) {
			t.Errorf("State is %s, want %s", brief(got), brief(want))
		}
		x.back()
		x.append(api.Edit{Gone: []api.Place{gone(0, 11)}}, api.OK)
		x.back()
	}
}

// Rule 4: what State and Load tell is new memory, spare room too: changed, it changes no other answer and nothing that is kept.
func TestAnswersAreNew(t *testing.T) {
	x := begun(t, 64, wide())
	for i := range 4 {
		want, other := x.plain.state, x.m.State()
		loaded, _ := Load(x.d, 64, 5)
		spoil(x.m.State())
		again, _ := Load(x.d, 64, 5)
		spoil(again)
		if !same(other, want) || !same(loaded, want) || !same(x.m.State(), want) {
			t.Errorf("State %s, Load %s, State again %s; want %s", brief(other), brief(loaded), brief(x.m.State()), brief(want))
		}
		x.back()
		// What comes behind an answer does not change it.
		x.append(api.Edit{Seq: uint64(i + 1), Come: []api.Added{come(0, f(50-i, "a", "b"))}}, api.OK)
		if !same(other, want) || !same(loaded, want) {
			t.Errorf("State %s, Load %s; want %s", brief(other), brief(loaded), brief(want))
		}
		// Neither does a refusal let an answer reach what is kept.
		kept := x.m.State()
		x.append(api.Edit{Gone: []api.Place{gone(0, 999)}}, api.ErrVersion)
		spoil(kept)
		x.back()
	}
}

// Rule 4: no two lists of an answer share memory, their spare room neither.
func TestListsOfAnAnswer(t *testing.T) {
	x := begun(t, 64, wide())
	x.append(wideEdit(), api.OK)
	want := x.plain.state
	answers := []func() State{
		x.m.State,
		func() State { s, _ := Load(x.d, 64, 5); return s },
		func() State { s, _ := Load(x.d, 64, 7); s.Levels = s.Levels[:5]; return s },
	}
	for _, answer := range answers {
		for level := range want.Levels {
			got := answer()
			list := got.Levels[level]
			for i := range list[:cap(list)] {
				list[:cap(list)][i] = f(-7, "spoilt", "")
			}
			_ = append(list, f(-7, "spoilt", ""), f(-7, "spoilt", ""))
			for other := range got.Levels {
				if other != level && !slices.Equal(got.Levels[other], want.Levels[other]) {
					t.Errorf("level %d spoilt: level %d is %s", level, other, brief(got.Levels[other]))
				}
			}
		}
	}
}

// Rule 4: the same of the state that a Begin keeps, which came from lists of the caller.
func TestKeptLists(t *testing.T) {
	x := begun(t, 64, wide())
	for level := range wide().Levels {
		s := x.m.State()
		_ = append(s.Levels[level], f(-7, "spoilt", ""))
		_ = append(s.Levels, []api.File{f(-7, "spoilt", "")})
		if !same(s, wide()) || !same(x.m.State(), wide()) {
			t.Errorf("level %d put on: %s, State %s", level, brief(s), brief(x.m.State()))
		}
	}
}
