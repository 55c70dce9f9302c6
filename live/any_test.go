package live

import (
	"fmt"
	"math/rand"
	"reflect"
	"slices"
	"testing"

	"moraine/api"
	"moraine/version"
)

// mostNumber is the greatest Number of the files in any calls: few, so that they meet.
const mostNumber = 15

// anyLevels makes levels that mostly are a version's.
func anyLevels(chance *rand.Rand) api.Levels {
	if chance.Intn(8) == 0 {
		all := notLevels()
		return all[chance.Intn(len(all))]
	}
	l := make(api.Levels, 1+chance.Intn(api.MaxLevels))
	files := make([]int, len(l))
	for _, n := range chance.Perm(mostNumber)[:chance.Intn(8)] {
		level := chance.Intn(len(l))
		key := string(rune('a' + files[level]))
		files[level]++
		l[level] = append(l[level], f(n+1, key, key+"\x00"))
	}
	slices.SortFunc(l[0], func(a, b api.File) int { return a.Number - b.Number })
	return l
}

// anyCall does one call to a set and to what the chapter says, and tells which it was; it leaves the version that is spared (0: none) held.
func (x *pair) anyCall(chance *rand.Rand, spared int) string {
	x.t.Helper()
	what, e := "", api.OK
	switch chance.Intn(8) {
	case 0:
		l, want := anyLevels(chance), 0
		if version.Valid(l) {
			want = x.p.last() + 1
		}
		x.install(l, want)
		return fmt.Sprint("Install ", want > 0)
	case 1, 2:
		x.hold(x.p.last())
		return "Hold"
	case 3, 4, 5:
		number := chance.Intn(x.p.last()+3) - 1
		if spared > 0 && number == spared && x.p.held[number-1] == 1 {
			return "spared"
		}
		if e = api.ErrRefs; x.p.isHeld(number) {
			e = api.OK
		}
		x.drop(number, e)
		what = "Drop"
	case 6:
		number := chance.Intn(mostNumber + 1)
		switch {
		case number == 0:
			e = api.ErrArg
		case slices.Contains(x.p.writing, number):
			e = api.ErrThere
		}
		x.begin(number, e)
		what = "Begin"
	default:
		number := chance.Intn(mostNumber + 1)
		if !slices.Contains(x.p.writing, number) {
			e = api.ErrMissing
		}
		x.end(number, e)
		what = "End"
	}
	return fmt.Sprint(what, " ", int(e))
}

// anyPair begins with any levels that are a version's.
func anyPair(t *testing.T, chance *rand.Rand) *pair {
	t.Helper()
	l := anyLevels(chance)
	for !version.Valid(l) {
		l = anyLevels(chance)
	}
	return newPair(t, l)
}

// P18.1 to P18.4: any calls, held against the chapter's words.
func TestAnyCalls(t *testing.T) {
	counts := map[string]int{}
	for seed := range int64(60) {
		chance := rand.New(rand.NewSource(seed))
		x := anyPair(t, chance)
		for range 60 {
			counts[x.anyCall(chance, 0)]++
		}
		if t.Failed() {
			t.Fatalf("seed %d", seed)
		}
	}
	// So that the way through is not a lame one.
	for _, need := range []string{"Install true", "Install false", "Hold", "Drop 0", "Drop 180", "Begin 0", "Begin 2", "Begin 81", "End 0", "End 51"} {
		if counts[need] < 20 {
			t.Errorf("%s: %d times", need, counts[need])
		}
	}
}

// P18.5: as long as a version is held, its Levels stay, and none of its files is obsolete.
func TestNothingIsTaken(t *testing.T) {
	for seed := range int64(40) {
		chance := rand.New(rand.NewSource(seed))
		x := anyPair(t, chance)
		for range chance.Intn(10) {
			x.anyCall(chance, 0)
		}
		held := x.s.Hold()
		x.p.held[held-1]++
		want, e := x.s.Levels(held)
		if e != api.OK {
			t.Fatalf("seed %d: error %d", seed, int(e))
		}
		names := tableNames(mostNumber)
		for range 40 {
			x.anyCall(chance, held)
			if got, e := x.s.Levels(held); e != api.OK || !same(got, want) {
				t.Fatalf("seed %d: %s, error %d; want %s", seed, brief(got), int(e), brief(want))
			}
			obsolete := x.s.Obsolete(names, chance.Intn(20), chance.Intn(20))
			for _, number := range version.Numbers(want) {
				if slices.Contains(obsolete, names[number-1]) {
					t.Fatalf("seed %d: %d is obsolete", seed, number)
				}
			}
		}
	}
}

// P18.6: behind the last Drop and the last End one version is there, Tables are its files, and all others are obsolete.
func TestNothingStays(t *testing.T) {
	for seed := range int64(60) {
		chance := rand.New(rand.NewSource(seed))
		x := anyPair(t, chance)
		for range 40 {
			x.anyCall(chance, 0)
		}
		for _, i := range chance.Perm(x.p.last()) {
			for x.s.Refs(i+1) > 0 {
				x.drop(i+1, api.OK)
			}
		}
		for _, number := range chance.Perm(mostNumber + 1) {
			x.s.End(number)
		}
		_, l := x.s.Current()
		if tables := x.s.Tables(); x.s.Len() != 1 || !slices.Equal(tables, version.Numbers(l)) {
			t.Errorf("seed %d: Len %d, Tables %v of %s", seed, x.s.Len(), tables, brief(l))
		}
		var want []string
		for i, name := range tableNames(mostNumber) {
			if _, _, needed := version.Find(l, i+1); !needed {
				want = append(want, name)
			}
		}
		if got := x.s.Obsolete(tableNames(mostNumber), 1, 1); !slices.Equal(got, want) {
			t.Errorf("seed %d: obsolete %q, want %q", seed, got, want)
		}
	}
}

// Rule 5: the same calls answer the same, in whatever order the maps are gone through.
func TestSameCalls(t *testing.T) {
	run := func() []any {
		s, chance := New(wide()), rand.New(rand.NewSource(3))
		var out []any
		for i := range 200 {
			number, l := s.Current()
			out = append(out, number, l, s.Hold(), s.Install(anyLevels(chance)), s.Drop(chance.Intn(i+1)), s.Begin(chance.Intn(40)), s.End(chance.Intn(40)))
			out = append(out, s.Tables(), s.Obsolete(diskNames(), chance.Intn(9), chance.Intn(9)), s.Len(), s.Refs(chance.Intn(i+1)))
		}
		return out
	}
	if a, b := run(), run(); !reflect.DeepEqual(a, b) {
		t.Errorf("%s, then %s", brief(a), brief(b))
	}
}
