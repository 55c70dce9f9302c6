package live

import (
	"reflect"
	"slices"
	"strings"
	"testing"

	"moraine/api"
)

// The chapter's three examples.
func TestExamples(t *testing.T) {
	x := newPair(t, with(2))
	x.hold(1)
	x.install(with(3), 2)
	if got := x.s.Tables(); !reflect.DeepEqual(got, []int{2, 3}) || x.s.Len() != 2 {
		t.Errorf("Tables %v, Len %d", got, x.s.Len())
	}
	x.drop(1, api.OK)
	if got := x.s.Tables(); !reflect.DeepEqual(got, []int{3}) {
		t.Errorf("Tables %v", got)
	}
	if l, e := x.s.Levels(1); e != api.ErrRefs || len(l) != 0 {
		t.Errorf("Levels %s, error %d", brief(l), int(e))
	}
	x.drop(1, api.ErrRefs)
	x.drop(2, api.ErrRefs)

	x.begin(7, api.OK)
	if got := x.s.Tables(); !reflect.DeepEqual(got, []int{3, 7}) {
		t.Errorf("Tables %v", got)
	}
	x.begin(7, api.ErrThere)
	x.end(7, api.OK)
	x.end(7, api.ErrMissing)
	x.begin(0, api.ErrArg)

	names := strings.Fields("000002.tab 000003.tab 000004.log 000009.log MANIFEST-000001 MANIFEST-000005 CURRENT 000008.tmp x")
	if got := x.s.Obsolete(names, 9, 5); strings.Join(got, " ") != "000004.log 000002.tab MANIFEST-000001 000008.tmp" {
		t.Errorf("Obsolete: %q", got)
	}
}

// Rule 1: a set that is nil, and one that no call gave.
func TestNone(t *testing.T) {
	for _, s := range []*Set{nil, {}} {
		for _, l := range append(notLevels(), with(2), wide(), make(api.Levels, 1)) {
			if n := s.Install(l); n != 0 {
				t.Errorf("Install(%s): %d", brief(l), n)
			}
		}
		if n, held := s.Len(), s.Hold(); n != 0 || held != 0 {
			t.Errorf("Len %d, Hold %d", n, held)
		}
		for _, number := range numbers() {
			drop, begin, end := s.Drop(number), s.Begin(number), s.End(number)
			if drop != api.ErrNil || begin != api.ErrNil || end != api.ErrNil {
				t.Errorf("of %d: Drop %d, Begin %d, End %d", number, int(drop), int(begin), int(end))
			}
			if l, e := s.Levels(number); l != nil || e != api.ErrNil || s.Refs(number) != 0 {
				t.Errorf("of %d: Levels %s, error %d, Refs %d", number, brief(l), int(e), s.Refs(number))
			}
			if got := s.Obsolete(diskNames(), number, number); len(got) != 0 {
				t.Errorf("Obsolete: %q", got)
			}
		}
		if number, l := s.Current(); number != 0 || l != nil || len(s.Tables()) != 0 {
			t.Errorf("Current %d, %s; Tables %v", number, brief(l), s.Tables())
		}
		if s != nil && !reflect.DeepEqual(*s, Set{}) {
			t.Errorf("something was done: %s", brief(*s))
		}
	}
}

// P18.1: levels that are no version's make none.
func TestNewOfNone(t *testing.T) {
	for _, l := range notLevels() {
		if New(l) != nil {
			t.Errorf("New(%s) made one", brief(l))
		}
	}
}

// P18.1: a set begins with one version, its number 1; levels without files are such, too.
func TestNew(t *testing.T) {
	for _, l := range []api.Levels{with(2), wide(), with(1, api.MaxNumber), {nil}, {{}}, make(api.Levels, 3), make(api.Levels, api.MaxLevels)} {
		x := newPair(t, l)
		if number, got := x.s.Current(); number != 1 || !same(got, l) || x.s.Len() != 1 || x.s.Refs(1) != 0 {
			t.Errorf("%d, %s, Len %d, Refs %d", number, brief(got), x.s.Len(), x.s.Refs(1))
		}
		x.drop(1, api.ErrRefs)
	}
}

// P18.1: Install goes to the next number, and leaves all as it is for levels that are no version's.
func TestInstall(t *testing.T) {
	x := newPair(t, with(2))
	for i, l := range []api.Levels{with(3), wide(), {nil}, make(api.Levels, api.MaxLevels), with(2, 3), wide()} {
		x.install(l, i+2)
		for _, wrong := range notLevels() {
			x.install(wrong, 0)
		}
		if x.s.Len() != 1 {
			t.Errorf("Len %d", x.s.Len())
		}
	}
	x.hold(7)
	for _, wrong := range notLevels() {
		x.install(wrong, 0)
	}
	x.install(with(2), 8)
}

// P18.1: the same levels again are another version.
func TestInstallAgain(t *testing.T) {
	x := newPair(t, wide())
	x.install(wide(), 2)
	x.drop(1, api.ErrRefs)
	x.hold(2)
	x.install(wide(), 3)
	if x.s.Len() != 2 {
		t.Errorf("Len %d", x.s.Len())
	}
	x.hold(3)
	x.install(wide(), 4)
	x.install(with(), 5)
	x.drop(2, api.OK)
	x.drop(2, api.ErrRefs)
	x.drop(3, api.OK)
	if x.s.Len() != 1 || len(x.s.Tables()) != 0 {
		t.Errorf("Len %d, Tables %v", x.s.Len(), x.s.Tables())
	}
}

// P18.2: one version held several times lasts until it was dropped as often.
func TestHoldOften(t *testing.T) {
	x := newPair(t, with(2))
	for range 3 {
		x.hold(1)
	}
	x.install(with(3), 2)
	for left := 2; left >= 0; left-- {
		if l, e := x.s.Levels(1); e != api.OK || !same(l, with(2)) || x.s.Len() != 2 {
			t.Errorf("%d more: %s, error %d, Len %d", left+1, brief(l), int(e), x.s.Len())
		}
		x.drop(1, api.OK)
		if n := x.s.Refs(1); n != left {
			t.Errorf("Refs %d, want %d", n, left)
		}
	}
	x.drop(1, api.ErrRefs)
	if x.s.Len() != 1 {
		t.Errorf("Len %d", x.s.Len())
	}
}

// P18.2: several versions are held and dropped each for itself, in any order.
func TestHoldSeveral(t *testing.T) {
	for _, order := range [][]int{{1, 2, 3, 3, 4}, {4, 3, 3, 2, 1}, {3, 1, 4, 3, 2}, {2, 3, 1, 3, 4}} {
		x := newPair(t, with(2, 9))
		x.hold(1)
		x.install(with(3, 9), 2)
		x.hold(2)
		x.install(with(4), 3)
		x.hold(3)
		x.hold(3)
		x.install(with(5, 9), 4)
		x.hold(4)
		if x.s.Len() != 4 {
			t.Errorf("Len %d", x.s.Len())
		}
		for _, number := range order {
			x.drop(number, api.OK)
		}
		for number := range 5 {
			x.drop(number, api.ErrRefs)
		}
		if x.s.Len() != 1 {
			t.Errorf("%v: Len %d", order, x.s.Len())
		}
	}
}

// P18.2: versions that nobody holds: current, gone, never there.
func TestDropOfNone(t *testing.T) {
	x := newPair(t, with(2))
	expectNoDrop := func(held ...int) {
		t.Helper()
		for _, number := range append(numbers(), 3, 4, 5) {
			if !slices.Contains(held, number) {
				x.drop(number, api.ErrRefs)
			}
		}
	}
	expectNoDrop()
	x.hold(1)
	expectNoDrop(1)
	x.install(with(3), 2)
	expectNoDrop(1)
	x.hold(2)
	x.drop(1, api.OK)
	expectNoDrop(2)
	x.install(with(4), 3)
	x.drop(2, api.OK)
	expectNoDrop()
	if x.s.Len() != 1 {
		t.Errorf("Len %d", x.s.Len())
	}
}

// P18.2: a version that is dropped while it is current stays, until another is installed.
func TestDropOfCurrent(t *testing.T) {
	x := newPair(t, with(2))
	x.hold(1)
	x.hold(1)
	x.drop(1, api.OK)
	x.drop(1, api.OK)
	x.drop(1, api.ErrRefs)
	if l, e := x.s.Levels(1); e != api.OK || !same(l, with(2)) || x.s.Len() != 1 || x.s.Refs(1) != 0 {
		t.Errorf("%s, error %d, Len %d, Refs %d", brief(l), int(e), x.s.Len(), x.s.Refs(1))
	}
	// It can be held again, as long as it is current.
	x.hold(1)
	x.drop(1, api.OK)
	x.install(with(3), 2)
	if l, e := x.s.Levels(1); e != api.ErrRefs || len(l) != 0 || x.s.Len() != 1 {
		t.Errorf("%s, error %d, Len %d", brief(l), int(e), x.s.Len())
	}
	x.hold(2)
	x.drop(1, api.ErrRefs)
	if x.s.Refs(1) != 0 || x.s.Refs(2) != 1 {
		t.Errorf("Refs %d, %d", x.s.Refs(1), x.s.Refs(2))
	}
}

// What is kept is no more than what is there: versions that are gone leave nothing behind.
func TestGoneLeaveNothing(t *testing.T) {
	s := New(with(2))
	for i := range 1000 {
		held := s.Hold()
		if i%2 == 0 {
			s.Install(wide())
		}
		if held != i/2+i%2+1 || s.Drop(held) != api.OK {
			t.Fatalf("round %d: held %d", i, held)
		}
		s.Begin(i + 1)
		s.End(i + 1)
		if len(s.versions) != 1 || len(s.writing) != 0 {
			t.Fatalf("round %d: %d versions, %d files", i, len(s.versions), len(s.writing))
		}
	}
}
