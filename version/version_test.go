package version

import (
	"math"
	"math/rand"
	"slices"
	"strings"
	"testing"

	"moraine/api"
)

// P16.1: how many levels there are.
func TestValidLevels(t *testing.T) {
	expectLevels(t, false, nil)
	expectLevels(t, false, api.Levels{})
	for n := 1; n <= api.MaxLevels; n++ {
		expectLevels(t, true, make(api.Levels, n))
		l := make(api.Levels, n)
		l[n-1] = []api.File{f(1, "a", "b")}
		expectLevels(t, true, l)
	}
	for _, n := range []int{api.MaxLevels + 1, api.MaxLevels + 2, 100} {
		expectLevels(t, false, make(api.Levels, n))
		l := make(api.Levels, n)
		l[0] = []api.File{f(1, "a", "b")}
		expectLevels(t, false, l)
	}
	expectLevels(t, true, begun())
	expectLevels(t, true, wide())
}

// tryFile tries a file alone in each of two levels, and ahead of, between and behind others.
func tryFile(t *testing.T, want bool, change func(x *api.File)) {
	t.Helper()
	x := f(50, "m", "n")
	change(&x)
	expectLevels(t, want, api.Levels{{x}})
	expectLevels(t, want, api.Levels{nil, {x}, nil})
	expectLevels(t, want, api.Levels{{f(2, "a", "b")}, nil, nil, nil, nil, nil, {x}})
	if !want {
		expectLevels(t, false, api.Levels{{x, f(51, "a", "z")}, {f(1, "a", "b")}})
		expectLevels(t, false, api.Levels{{f(49, "a", "z"), x}, {f(1, "a", "b")}})
		expectLevels(t, false, api.Levels{{f(49, "a", "z")}, {f(1, "a", "b"), x, f(3, "y", "z")}})
	}
}

// P16.1: a file may be, or not, by its Number and its Size.
func TestValidNumberAndSize(t *testing.T) {
	wrong := []int{0, -1, math.MinInt, math.MaxInt, 1 << 32, 1<<32 + 1, -1 << 31}
	for _, v := range []int{1, 3, 255, 256, api.MaxNumber - 1, api.MaxNumber} {
		tryFile(t, true, func(x *api.File) { x.Number = v })
	}
	for _, v := range append(wrong, api.MaxNumber+1) {
		tryFile(t, false, func(x *api.File) { x.Number = v })
	}
	for _, v := range []int{1, 2, api.MaxQuota - 1, api.MaxQuota} {
		tryFile(t, true, func(x *api.File) { x.Size = v })
	}
	for _, v := range append(wrong, api.MaxQuota+1) {
		tryFile(t, false, func(x *api.File) { x.Size = v })
	}
}

// P16.1: a file may be, or not, by its Least and its Limit.
func TestValidBounds(t *testing.T) {
	long := func(n int) string { return strings.Repeat("q", n) }
	for _, x := range []struct {
		want         bool
		least, limit string
	}{
		{false, "", "a"}, {false, "", "\x00"}, {false, "", ""}, {false, "a", ""},
		{true, "a", "a\x00"}, {true, "\x00", "\x00\x00"}, {true, "\xff", "\xff\x00"}, {true, "a", "b"},
		{true, "a\xff", "b"}, {true, "\x7f", "\x80"}, {true, "ab", "b"},
		{false, "b", "b"}, {false, "b", "a"}, {false, "b", "a\xff\xff"}, {false, "ab", "a"}, {false, "\x80", "\x7f"},
		{true, long(api.MaxKey), "r"}, {true, long(api.MaxKey), long(api.MaxKey) + "\x00"}, {true, long(api.MaxKey - 1), long(api.MaxKey)},
		{false, long(api.MaxKey), long(api.MaxKey)}, {false, long(api.MaxKey + 1), "r"}, {false, long(api.MaxKey + 1), long(api.MaxKey+1) + "q"},
		{true, "p", long(api.MaxKey + 1)}, {false, "p", long(api.MaxKey + 2)}, {false, long(api.MaxKey), long(api.MaxKey + 2)}, {false, "p", long(5000)},
	} {
		tryFile(t, x.want, func(y *api.File) { y.Least, y.Limit = x.least, x.limit })
	}
}

// P16.1: a file may be, or not, by its Low and its High.
func TestValidSeqs(t *testing.T) {
	for _, x := range []struct {
		want      bool
		low, high uint64
	}{
		{true, 1, 1}, {true, 1, 2}, {true, 7, 7}, {true, 1, api.MaxSeq}, {true, api.MaxSeq, api.MaxSeq}, {true, api.MaxSeq - 1, api.MaxSeq},
		{false, 0, 0}, {false, 0, 1}, {false, 0, api.MaxSeq}, {false, 2, 1}, {false, 8, 7}, {false, 1, 0}, {false, api.MaxSeq, api.MaxSeq - 1},
		{false, 1, api.MaxSeq + 1}, {false, api.MaxSeq + 1, api.MaxSeq + 1}, {false, api.MaxSeq + 1, api.MaxSeq}, {false, 1, 1 << 63}, {false, 1, math.MaxUint64}, {false, math.MaxUint64, 1},
	} {
		tryFile(t, x.want, func(y *api.File) { y.Low, y.High = x.low, x.high })
	}
}

// P16.1: no two files have one Number, in one level or in two.
func TestValidNoTwo(t *testing.T) {
	for _, l := range []api.Levels{
		{{f(2, "a", "b"), f(2, "c", "d")}},
		{{f(2, "a", "b"), f(2, "a", "b")}},
		{nil, {f(2, "a", "b"), f(2, "c", "d")}},
		{nil, {f(2, "a", "b"), f(3, "c", "d"), f(2, "e", "f")}},
		{{f(2, "a", "b")}, {f(2, "c", "d")}},
		{{f(2, "a", "b")}, nil, nil, nil, nil, nil, {f(2, "a", "b")}},
		{nil, {f(9, "a", "b"), f(2, "c", "d")}, {f(3, "x", "y")}, {f(8, "a", "b"), f(2, "p", "q")}},
		{{f(1, "a", "b"), f(2, "a", "b"), f(3, "a", "b")}, {f(4, "a", "b"), f(1, "c", "d")}},
	} {
		expectLevels(t, false, l)
	}
	expectLevels(t, true, api.Levels{{f(2, "a", "b")}, {f(3, "a", "b")}, {f(1, "a", "b")}})
}

// P16.1: level 0's Numbers rise, and its files may overlap; the others' files rise and do not, whatever their Numbers.
func TestValidOrder(t *testing.T) {
	for _, x := range []struct {
		want bool
		l    api.Levels
	}{
		{true, api.Levels{{f(3, "a", "c"), f(5, "b", "d")}}},
		{false, api.Levels{{f(5, "b", "d"), f(3, "a", "c")}}},
		{true, api.Levels{{f(3, "x", "z"), f(5, "a", "d"), f(6, "x", "z"), f(9, "a", "\xff")}}},
		{false, api.Levels{{f(3, "a", "b"), f(6, "c", "d"), f(5, "e", "f"), f(9, "g", "h")}}},
		{false, api.Levels{{f(3, "a", "b"), f(6, "c", "d"), f(9, "e", "f"), f(5, "g", "h")}}},
		{true, api.Levels{nil, {f(5, "a", "b"), f(3, "b", "c")}}},
		{true, api.Levels{nil, {f(5, "a", "b"), f(3, "b\x00", "c")}}},
		{false, api.Levels{nil, {f(5, "a", "b\x00"), f(3, "b", "c")}}},
		{false, api.Levels{nil, {f(2, "a", "c"), f(4, "b", "c")}}},
		{false, api.Levels{nil, {f(2, "a", "c"), f(4, "a", "c")}}},
		{false, api.Levels{nil, {f(3, "b", "c"), f(5, "a", "b")}}},
		{false, api.Levels{nil, {f(3, "a", "z"), f(5, "b", "c")}}},
		{false, api.Levels{nil, nil, nil, nil, nil, nil, {f(1, "a", "b"), f(3, "b", "d"), f(5, "c", "e")}}},
		{true, api.Levels{nil, nil, nil, nil, nil, nil, {f(9, "a", "b"), f(3, "b", "d"), f(5, "d", "e")}}},
		{true, api.Levels{{f(1, "a", "c")}, {f(2, "a", "c")}, nil, {f(3, "b", "c")}}},
	} {
		expectLevels(t, x.want, x.l)
	}
}

// The chapter's first example.
func TestFirstExample(t *testing.T) {
	l := begun()
	if !Valid(l) {
		t.Error("the example's levels")
	}
	l[1] = []api.File{f(2, "a", "c"), f(4, "b", "c")}
	if Valid(l) {
		t.Error("level 1 overlaps")
	}
	l = begun()
	l[0] = []api.File{f(5, "b", "d"), f(3, "a", "c")}
	if Valid(l) {
		t.Error("level 0 falls")
	}
}

// P16.2, and the chapter's third example.
func TestThirdExample(t *testing.T) {
	got := expectApply(t, begun(), api.Edit{Gone: []api.Place{gone(0, 3)}, Come: []api.Added{come(1, f(7, "c", "e"))}}, api.OK)
	if !same(got, api.Levels{{f(5, "b", "d")}, {f(2, "a", "b"), f(4, "b", "c"), f(7, "c", "e")}}) {
		t.Errorf("%s", brief(got))
	}
	expectApply(t, begun(), api.Edit{Gone: []api.Place{gone(1, 3)}}, api.ErrVersion)
	expectApply(t, begun(), api.Edit{Come: []api.Added{come(1, f(7, "b", "e"))}}, api.ErrVersion)
	got = expectApply(t, begun(), api.Edit{Gone: []api.Place{gone(1, 4)}, Come: []api.Added{come(1, f(7, "b", "e"))}}, api.OK)
	if !same(got, api.Levels{begun()[0], {f(2, "a", "b"), f(7, "b", "e")}}) {
		t.Errorf("%s", brief(got))
	}
}

// P16.2: what goes is there, and goes once.
func TestApplyGone(t *testing.T) {
	for _, l := range []api.Levels{begun(), wide()} {
		all := plainPlaces(l)
		var places []api.Place
		for _, x := range all {
			p := gone(x.Level, x.File.Number)
			places = append(places, p)
			expectApply(t, l, api.Edit{Gone: []api.Place{p}}, api.OK)
			expectApply(t, l, api.Edit{Gone: []api.Place{p, p}}, api.ErrVersion)
			// That the file comes again does not make up for its going twice.
			expectApply(t, l, api.Edit{Gone: []api.Place{p, p}, Come: []api.Added{x}}, api.ErrVersion)
			for _, level := range levelNumbers() {
				if level != x.Level {
					expectApply(t, l, api.Edit{Gone: []api.Place{gone(level, p.Number)}}, api.ErrVersion)
					expectApply(t, l, api.Edit{Gone: []api.Place{p, gone(level, p.Number)}}, api.ErrVersion)
				}
			}
			for _, number := range fileNumbers() {
				expectApply(t, l, api.Edit{Gone: []api.Place{gone(x.Level, number)}}, api.ErrVersion)
			}
		}
		// A file that comes is not there yet.
		expectApply(t, l, api.Edit{Gone: []api.Place{gone(0, 999)}, Come: []api.Added{come(0, f(999, "a", "b"))}}, api.ErrVersion)
		got := expectApply(t, l, api.Edit{Gone: places}, api.OK)
		if len(got) != len(l) || Files(got) != 0 {
			t.Errorf("all went: %s", brief(got))
		}
		slices.Reverse(places)
		expectApply(t, l, api.Edit{Gone: places}, api.OK)
		expectApply(t, l, api.Edit{Gone: append(places, places[0])}, api.ErrVersion)
		expectApply(t, l, api.Edit{Gone: append(places[1:], places[1])}, api.ErrVersion)
	}
}

// P16.2: what comes stands in its order, whatever its turn, in a level that there is.
func TestApplyCome(t *testing.T) {
	l := api.Levels{{f(3, "a", "c"), f(8, "b", "d")}, begun()[1]}
	new0 := []api.Added{come(0, f(5, "x", "z")), come(0, f(1, "a", "z")), come(0, f(90, "a", "b")), come(0, f(11, "b", "d"))}
	new1 := []api.Added{come(1, f(20, "0", "1")), come(1, f(1, "d", "e")), come(1, f(9, "c", "d")), come(1, f(19, "1", "a"))}
	chance := rand.New(rand.NewSource(1))
	for range 50 {
		for _, list := range [][]api.Added{new0, new1} {
			chance.Shuffle(len(list), func(i, j int) { list[i], list[j] = list[j], list[i] })
			expectApply(t, l, api.Edit{Come: list}, api.OK)
		}
	}
	got := expectApply(t, l, api.Edit{Come: new0}, api.OK)
	if !same(got, api.Levels{{f(1, "a", "z"), f(3, "a", "c"), f(5, "x", "z"), f(8, "b", "d"), f(11, "b", "d"), f(90, "a", "b")}, l[1]}) {
		t.Errorf("level 0: %s", brief(got))
	}
	got = expectApply(t, l, api.Edit{Come: new1}, api.OK)
	if !same(got, api.Levels{l[0], {f(20, "0", "1"), f(19, "1", "a"), f(2, "a", "b"), f(4, "b", "c"), f(9, "c", "d"), f(1, "d", "e")}}) {
		t.Errorf("level 1: %s", brief(got))
	}
	for _, level := range levelNumbers() {
		want := api.ErrVersion
		if level == 0 || level == 1 {
			want = api.OK
		}
		expectApply(t, begun(), api.Edit{Come: []api.Added{come(level, f(7, "c", "e"))}}, want)
		expectApply(t, begun(), api.Edit{Come: []api.Added{come(0, f(8, "c", "e")), come(level, f(7, "c", "e"))}}, want)
	}
	most := make(api.Levels, api.MaxLevels)
	expectApply(t, most, api.Edit{Come: []api.Added{come(api.MaxLevels-1, f(7, "c", "e"))}}, api.OK)
	expectApply(t, most, api.Edit{Come: []api.Added{come(api.MaxLevels, f(7, "c", "e"))}}, api.ErrVersion)
	expectApply(t, api.Levels{nil}, api.Edit{Come: []api.Added{come(0, f(7, "c", "e"))}}, api.OK)
	expectApply(t, api.Levels{nil}, api.Edit{Come: []api.Added{come(1, f(7, "c", "e"))}}, api.ErrVersion)
}

// P16.2: files that come and overlap one that stays, one that goes, one another; and just touch them.
func TestApplyOverlap(t *testing.T) {
	for _, x := range []struct {
		want         api.Errno
		least, limit string
		gone         []api.Place
	}{
		{api.OK, "0", "a", nil}, {api.ErrVersion, "0", "a\x00", nil}, {api.ErrVersion, "0", "z", nil},
		{api.ErrVersion, "a", "b", nil}, {api.ErrVersion, "aa", "ab", nil}, {api.ErrVersion, "b\xff", "d", nil},
		{api.OK, "c", "d", nil}, {api.OK, "c\x00", "d", nil},
		{api.OK, "a", "b", []api.Place{gone(1, 2)}}, {api.OK, "0", "b", []api.Place{gone(1, 2)}}, {api.ErrVersion, "0", "b\x00", []api.Place{gone(1, 2)}},
		{api.ErrVersion, "a", "b", []api.Place{gone(1, 4)}}, {api.OK, "b", "z", []api.Place{gone(1, 4)}}, {api.ErrVersion, "a\xff", "z", []api.Place{gone(1, 4)}},
		{api.OK, "0", "z", []api.Place{gone(1, 4), gone(1, 2)}},
	} {
		e := api.Edit{Gone: x.gone, Come: []api.Added{come(1, f(7, x.least, x.limit))}}
		expectApply(t, begun(), e, x.want)
		e.Come[0].Level = 0
		expectApply(t, begun(), e, api.OK)
	}
	expectApply(t, begun(), api.Edit{Come: []api.Added{come(1, f(7, "x", "z")), come(1, f(8, "y", "z"))}}, api.ErrVersion)
	expectApply(t, begun(), api.Edit{Come: []api.Added{come(1, f(7, "x", "y")), come(1, f(8, "x", "z"))}}, api.ErrVersion)
	expectApply(t, begun(), api.Edit{Come: []api.Added{come(1, f(8, "y", "z")), come(1, f(7, "x", "y"))}}, api.OK)
}

// P16.2: a Number that is there does not come, but one that goes does, in the same level and in another.
func TestApplyNumbers(t *testing.T) {
	for _, level := range []int{0, 1} {
		for _, number := range []int{2, 3, 4, 5} {
			expectApply(t, begun(), api.Edit{Come: []api.Added{come(level, f(number, "x", "z"))}}, api.ErrVersion)
		}
		for _, p := range []api.Place{gone(0, 3), gone(0, 5), gone(1, 2), gone(1, 4)} {
			expectApply(t, begun(), api.Edit{Gone: []api.Place{p}, Come: []api.Added{come(level, f(p.Number, "x", "z"))}}, api.OK)
			expectApply(t, begun(), api.Edit{Gone: []api.Place{p}, Come: []api.Added{come(level, f(p.Number, "x", "z")), come(1, f(p.Number, "q", "r"))}}, api.ErrVersion)
		}
		expectApply(t, begun(), api.Edit{Come: []api.Added{come(level, f(7, "x", "z")), come(1, f(7, "q", "r"))}}, api.ErrVersion)
	}
	got := expectApply(t, begun(), api.Edit{Gone: []api.Place{gone(0, 3)}, Come: []api.Added{come(0, f(3, "x", "z"))}}, api.OK)
	if !same(got, api.Levels{{f(3, "x", "z"), f(5, "b", "d")}, begun()[1]}) {
		t.Errorf("%s", brief(got))
	}
}

// P16.2: what comes may be.
func TestApplyWrongFiles(t *testing.T) {
	for _, change := range []func(x *api.File){
		func(x *api.File) { x.Number = 0 },
		func(x *api.File) { x.Number = api.MaxNumber + 1 },
		func(x *api.File) { x.Size = 0 },
		func(x *api.File) { x.Size = api.MaxQuota + 1 },
		func(x *api.File) { x.Least = "" },
		func(x *api.File) { x.Least = strings.Repeat("n", api.MaxKey+1) },
		func(x *api.File) { x.Limit = x.Least },
		func(x *api.File) { x.Limit = "" },
		func(x *api.File) { x.Limit = strings.Repeat("n", api.MaxKey+2) },
		func(x *api.File) { x.Low = 0 },
		func(x *api.File) { x.Low = 2 },
		func(x *api.File) { x.High = api.MaxSeq + 1 },
		func(x *api.File) { *x = api.File{} },
	} {
		x := f(50, "m", "z")
		change(&x)
		for _, level := range []int{0, 1} {
			expectApply(t, begun(), api.Edit{Come: []api.Added{come(level, f(40, "e", "f")), come(level, x)}}, api.ErrVersion)
			expectApply(t, make(api.Levels, 2), api.Edit{Come: []api.Added{come(level, x)}}, api.ErrVersion)
		}
	}
	for _, change := range []func(x *api.File){
		func(x *api.File) { x.Number = api.MaxNumber },
		func(x *api.File) { x.Size = api.MaxQuota },
		func(x *api.File) { x.Least = strings.Repeat("n", api.MaxKey) },
		func(x *api.File) { x.Limit = strings.Repeat("n", api.MaxKey+1) },
		func(x *api.File) { x.Low, x.High = api.MaxSeq, api.MaxSeq },
	} {
		x := f(50, "m", "z")
		change(&x)
		for _, level := range []int{0, 1} {
			expectApply(t, begun(), api.Edit{Come: []api.Added{come(level, x), come(level, f(40, "e", "f"))}}, api.OK)
		}
	}
}

// P16.2: an edit of nothing changes nothing, and Log, Next and Seq are not looked at.
func TestApplySaid(t *testing.T) {
	for _, l := range []api.Levels{begun(), wide(), {nil}, make(api.Levels, api.MaxLevels)} {
		if got := expectApply(t, l, api.Edit{}, api.OK); !same(got, l) {
			t.Errorf("%s became %s", brief(l), brief(got))
		}
		for _, v := range []int{0, 1, -1, api.MaxNumber, api.MaxNumber + 1, math.MinInt, math.MaxInt} {
			for _, seq := range []uint64{0, 1, api.MaxSeq, api.MaxSeq + 1, math.MaxUint64} {
				expectApply(t, l, api.Edit{Log: v, Next: -v, Seq: seq}, api.OK)
				expectApply(t, l, api.Edit{Log: -v, Next: v, Seq: seq, Come: []api.Added{come(0, f(80, "a", "b"))}}, api.OK)
			}
		}
	}
}

// P16.1: of levels that are no version's and of an edit that does not fit the levels' error is told.
func TestApplyOrderOfErrors(t *testing.T) {
	wrong := api.Levels{{f(5, "b", "d"), f(3, "a", "c")}}
	expectApply(t, wrong, api.Edit{Gone: []api.Place{gone(7, 7)}}, api.ErrArg)
	// Levels that an edit would mend are not mended.
	expectApply(t, wrong, api.Edit{Gone: []api.Place{gone(0, 5)}}, api.ErrArg)
	expectApply(t, api.Levels{nil, {f(2, "b", "c"), f(3, "a", "b")}}, api.Edit{Come: []api.Added{come(1, f(9, "x", "y"))}}, api.ErrArg)
	expectApply(t, nil, api.Edit{}, api.ErrArg)
}

// P16.2, P16.6: random levels and edits, held against the chapter's words; an edit and the one that takes it back.
func TestApplyRandom(t *testing.T) {
	chance := rand.New(rand.NewSource(2))
	fits := 0
	const tries = 4000
	for range tries {
		l := anyLevels(chance)
		if !Valid(l) {
			t.Fatalf("not valid: %s", brief(l))
		}
		e := anyEdit(chance, l)
		_, want := plainApply(l, e)
		got := expectApply(t, l, e, want)
		if want != api.OK {
			continue
		}
		fits++
		if !Valid(got) || Files(got) != Files(l)-len(e.Gone)+len(e.Come) || len(got) != len(l) {
			t.Errorf("Apply(%s, %s) = %s", brief(l), brief(e), brief(got))
		}
		var back api.Edit
		for _, x := range e.Come {
			back.Gone = append(back.Gone, gone(x.Level, x.File.Number))
		}
		for _, p := range e.Gone {
			_, x, _ := Find(l, p.Number)
			back.Come = append(back.Come, come(p.Level, x))
		}
		again, err := Apply(got, back)
		if err != api.OK || !same(again, l) || !Same(again, l) {
			t.Errorf("%s, taken back by %s: %s, error %d", brief(got), brief(back), brief(again), int(err))
		}
	}
	if fits < tries/10 || fits > tries*9/10 {
		t.Errorf("%d of %d edits fit", fits, tries)
	}
}

// P16.1: random levels with one field changed, or two files put for each other.
func TestValidRandom(t *testing.T) {
	chance := rand.New(rand.NewSource(3))
	valid := 0
	const tries = 3000
	for range tries {
		l := anyLevels(chance)
		all := l[chance.Intn(len(l))]
		if len(all) > 0 {
			x, y := &all[chance.Intn(len(all))], &all[chance.Intn(len(all))]
			switch chance.Intn(6) {
			case 0:
				x.Number = 1 + chance.Intn(60)
			case 1:
				x.Least = anyKey(chance)
			case 2:
				x.Limit = anyKey(chance)
			case 3:
				*x, *y = *y, *x
			case 4:
				x.Low, x.High = x.High, x.Low
			case 5:
				x.Number, y.Number = y.Number, x.Number
			}
		}
		want := plainValid(l)
		if Valid(l) != want {
			t.Errorf("Valid(%s) = %v", brief(l), !want)
		}
		if want {
			valid++
		}
	}
	if valid < tries/10 || valid > tries*9/10 {
		t.Errorf("%d of %d are valid", valid, tries)
	}
}
