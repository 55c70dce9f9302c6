package live

import (
	"slices"
	"testing"

	"moraine/api"
)

// filled tells the same levels with spare room that is not empty, in the levels' list and in each of its lists, and a call that tells whether all of it is still as it was.
func filled(l api.Levels) (api.Levels, func() bool) {
	all := make(api.Levels, len(l)+2)
	var want api.Levels
	for i := range all {
		list := make([]api.File, 0, 40)
		if i < len(l) {
			list = append(list, l[i]...)
		}
		for n := range 3 {
			list[:cap(list)][len(list)+n] = f(900+10*i+n, "a", "zz")
		}
		all[i] = list
		want = append(want, slices.Clone(list[:cap(list)]))
	}
	return all[:len(l)], func() bool {
		return slices.EqualFunc(all, want, func(list, w []api.File) bool { return slices.Equal(list[:cap(list)], w) })
	}
}

// filledNames does the same to names.
func filledNames(names []string) ([]string, func() bool) {
	list := make([]string, len(names), len(names)+4)
	copy(list, names)
	for i := range list[len(list):cap(list)] {
		list[:cap(list)][len(list)+i] = "000019.tab"
	}
	want := slices.Clone(list[:cap(list)])
	return list, func() bool { return slices.Equal(list[:cap(list)], want) }
}

// spoil changes all that levels reach, their spare room too.
func spoil(l api.Levels) {
	for _, files := range l[:cap(l)] {
		spoilFiles(files)
	}
	for i := range l[:cap(l)] {
		l[:cap(l)][i] = []api.File{f(-7, "spoilt", "")}
	}
}

func spoilFiles(files []api.File) {
	for i := range files[:cap(files)] {
		files[:cap(files)][i] = f(-7, "spoilt", "")
	}
}

func spoilNames(names []string) {
	for i := range names[:cap(names)] {
		names[:cap(names)][i] = "000018.tmp"
	}
}

// Rule 4: the levels that New and Install are handed stay as they were, and may change behind it.
func TestLevelsHandedIn(t *testing.T) {
	for _, l := range []api.Levels{wide(), with(3), make(api.Levels, 4)} {
		roomy, stays := filled(l)
		x := newPair(t, roomy)
		if !stays() {
			t.Errorf("changed: %s", brief(roomy))
		}
		spoil(roomy)
		x.look("the levels of New were spoilt")
		for i := range 3 {
			x.hold(i + 1)
			roomy, stays = filled(l)
			x.install(roomy, i+2)
			if !stays() {
				t.Errorf("changed: %s", brief(roomy))
			}
			spoil(roomy)
			x.look("the levels of Install were spoilt")
		}
	}
	for _, l := range notLevels() {
		roomy, stays := filled(l)
		x := newPair(t, wide())
		if x.install(roomy, 0); New(roomy) != nil || !stays() {
			t.Errorf("made of %s, or changed", brief(roomy))
		}
		spoil(roomy)
		x.look("the levels of no version were spoilt")
	}
}

// Rule 4: levels that stand in one memory one behind the other are not mixed up.
func TestLevelsOfOneMemory(t *testing.T) {
	all := []api.File{f(3, "a", "c"), f(5, "b", "d"), f(2, "a", "b"), f(4, "b", "c")}
	want := slices.Clone(all)
	x := newPair(t, api.Levels{all[:2], all[2:]})
	x.install(api.Levels{all[:1], all[1:2], all[2:2], all[3:]}, 2)
	if !slices.Equal(all, want) {
		t.Errorf("changed: %s", brief(all))
	}
	spoilFiles(all)
	x.look("the files were spoilt")
}

// Rule 4: the names that Obsolete is handed stay as they were, are read up to their length alone, and share no memory with the answer.
func TestNamesHandedIn(t *testing.T) {
	x := newPair(t, wide())
	for _, names := range [][]string{diskNames(), {"000003.tab"}, {"000001.tmp", "000003.tab"}, {"CURRENT"}, nil} {
		roomy, stays := filledNames(names)
		want := x.p.obsolete(names, 3, 7)
		got := x.s.Obsolete(roomy, 3, 7)
		if !slices.Equal(got, want) || !stays() {
			t.Errorf("%q, want %q; or changed: %q", got, want, roomy)
		}
		spoilNames(roomy)
		if !slices.Equal(got, want) {
			t.Errorf("the names were spoilt: %q, want %q", got, want)
		}
		roomy, stays = filledNames(names)
		spoilNames(x.s.Obsolete(roomy, 3, 7))
		_ = append(x.s.Obsolete(roomy, 3, 7), "x", "x")
		if !stays() {
			t.Errorf("the answer was spoilt: %q", roomy)
		}
		x.look("names were spoilt")
	}
}

// Rule 4: each answer is new memory, spare room too: changed, it changes no other answer and nothing that is kept.
func TestAnswersAreNew(t *testing.T) {
	x := newPair(t, wide())
	x.hold(1)
	x.begin(30, api.OK)
	for i := range 3 {
		x.install(with(20+i), i+2)
		_, current := x.s.Current()
		levels, _ := x.s.Levels(1)
		tables, obsolete := x.s.Tables(), x.s.Obsolete(diskNames(), 3, 7)
		for range 2 {
			_, l := x.s.Current()
			spoil(l)
			l, _ = x.s.Levels(1)
			spoil(l)
			l, _ = x.s.Levels(i + 2)
			spoil(l)
			numbers := x.s.Tables()
			for n := range numbers[:cap(numbers)] {
				numbers[:cap(numbers)][n] = 17
			}
			spoilNames(x.s.Obsolete(diskNames(), 3, 7))
			x.look("answers were spoilt")
		}
		if !same(current, with(20+i)) || !same(levels, wide()) || !slices.Equal(tables, x.p.tables()) || !slices.Equal(obsolete, x.p.obsolete(diskNames(), 3, 7)) {
			t.Errorf("%s, %s, %v, %q", brief(current), brief(levels), tables, obsolete)
		}
	}
	// What comes behind an answer does not change it.
	levels, _ := x.s.Levels(1)
	tables, obsolete := x.s.Tables(), x.s.Obsolete(diskNames(), 3, 7)
	wantTables, wantObsolete := x.p.tables(), x.p.obsolete(diskNames(), 3, 7)
	x.drop(1, api.OK)
	x.end(30, api.OK)
	x.install(with(40), 5)
	if !same(levels, wide()) || !slices.Equal(tables, wantTables) || !slices.Equal(obsolete, wantObsolete) {
		t.Errorf("%s, %v, %q", brief(levels), tables, obsolete)
	}
}

// Rule 4: no two lists of an answer share memory, their spare room neither.
func TestListsOfAnAnswer(t *testing.T) {
	s := New(wide())
	answers := []func() api.Levels{
		func() api.Levels { _, l := s.Current(); return l },
		func() api.Levels { l, _ := s.Levels(1); return l },
	}
	for _, answer := range answers {
		for level := range wide() {
			got, want := answer(), wide()
			_ = append(got[level], f(-7, "spoilt", ""), f(-7, "spoilt", ""))
			spoilFiles(got[level])
			for other := range got {
				if other != level && !slices.Equal(got[other], want[other]) {
					t.Errorf("level %d spoilt: level %d is %s", level, other, brief(got[other]))
				}
			}
		}
	}
}
