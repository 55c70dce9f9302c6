package edit

import (
	"math"
	"math/rand"
	"slices"
	"strings"
	"testing"

	"moraine/api"
)

// P15.1: Log, Next and Seq.
func TestValidSaid(t *testing.T) {
	for _, v := range []int{0, 1, 127, 128, api.MaxNumber - 1, api.MaxNumber} {
		expectWhole(t, api.Edit{Log: v})
		expectWhole(t, api.Edit{Next: v})
		expectWhole(t, api.Edit{Log: v, Next: v, Seq: uint64(v)})
	}
	for _, v := range append(wrongInts(), api.MaxNumber+1) {
		expectWrong(t, api.Edit{Log: v})
		expectWrong(t, api.Edit{Next: v})
		expectWrong(t, api.Edit{Log: 1, Next: v, Seq: 1})
		expectWrong(t, api.Edit{Log: v, Next: 1, Seq: 1})
	}
	for _, v := range []uint64{0, 1, 127, 128, api.MaxNumber + 1, api.MaxSeq - 1, api.MaxSeq} {
		expectWhole(t, api.Edit{Seq: v})
		expectWhole(t, api.Edit{Log: 1, Seq: v})
	}
	for _, v := range []uint64{api.MaxSeq + 1, api.MaxSeq + 2, 1 << 63, math.MaxUint64} {
		expectWrong(t, api.Edit{Seq: v})
		expectWrong(t, api.Edit{Log: 1, Next: 1, Seq: v})
	}
}

// P15.1: levels and Numbers of what goes and of what comes.
func TestValidPlaces(t *testing.T) {
	try := func(want bool, level, number int) {
		t.Helper()
		expect := expectWrong
		if want {
			expect = expectWhole
		}
		expect(t, api.Edit{Gone: []api.Place{gone(level, number)}})
		expect(t, api.Edit{Gone: []api.Place{gone(1, 2), gone(level, number), gone(2, 2)}})
		expect(t, api.Edit{Gone: []api.Place{gone(1, 2), gone(2, 2), gone(level, number)}})
		expect(t, api.Edit{Come: []api.Added{come(level, number)}})
		expect(t, api.Edit{Come: []api.Added{come(1, 2), come(level, number), come(2, 3)}})
		expect(t, api.Edit{Come: []api.Added{come(1, 2), come(2, 3), come(level, number)}})
	}
	for _, level := range []int{0, 1, api.MaxLevels - 1} {
		for _, number := range []int{1, 4, api.MaxNumber} {
			try(true, level, number)
		}
	}
	for _, level := range append(wrongInts(), api.MaxLevels, api.MaxLevels+1, 255, 256) {
		try(false, level, 5)
	}
	for _, number := range append(wrongInts(), 0, api.MaxNumber+1) {
		try(false, 1, number)
	}
}

// P15.1: no two of Gone are alike, no two of Come have one Number; Gone and Come do not ask for each other.
func TestValidNoTwo(t *testing.T) {
	for _, e := range []api.Edit{
		{Gone: []api.Place{gone(0, 5), gone(1, 5)}},
		{Gone: []api.Place{gone(1, 5), gone(0, 5), gone(6, 5), gone(0, 4)}},
		{Gone: []api.Place{gone(2, 3), gone(3, 2)}},
		{Come: []api.Added{come(0, 5), come(0, 6)}},
		{Gone: []api.Place{gone(0, 5)}, Come: []api.Added{come(1, 5)}},
		{Gone: []api.Place{gone(0, 5)}, Come: []api.Added{come(0, 5)}},
	} {
		expectWhole(t, e)
	}
	for _, e := range []api.Edit{
		{Gone: []api.Place{gone(0, 5), gone(0, 5)}},
		{Gone: []api.Place{gone(3, 5), gone(2, 5), gone(3, 5)}},
		{Come: []api.Added{come(0, 5), come(0, 5)}},
		{Come: []api.Added{come(0, 5), come(1, 5)}},
		{Come: []api.Added{come(6, 5), come(1, 4), come(0, 5)}},
		{Come: []api.Added{come(0, 5), {Level: 0, File: api.File{Number: 5, Size: 1, Least: "x", Limit: "y", Low: 7, High: 9}}}},
	} {
		expectWrong(t, e)
	}
}

// P15.1: all else of a file that comes.
func TestValidFile(t *testing.T) {
	for _, v := range []int{1, 2, 128, api.MaxQuota - 1, api.MaxQuota} {
		tryFile(t, true, func(f *api.File) { f.Size = v })
	}
	for _, v := range append(wrongInts(), 0, api.MaxQuota+1) {
		tryFile(t, false, func(f *api.File) { f.Size = v })
	}
	longest := strings.Repeat("k", api.MaxKey)
	for _, x := range []struct {
		least, limit string
		want         bool
	}{
		{"a", "b", true}, {"a", "a\x00", true}, {"\x00", "\x01", true}, {"\x00", "\x00\x00", true}, {"\x7f", "\x80", true}, {"b", "c", true}, {"ab", "b", true}, {"\xff", "\xff\x00", true},
		{longest, longest + "\x00", true}, {longest, "l", true}, {"k", longest, true}, {"a", longest + "k", true}, {longest, "l" + longest, true}, {longest[1:], longest, true},
		{"", "b", false}, {"", "", false}, {"", "\x00", false}, {"a", "", false}, {"a", "a", false}, {"b", "a", false}, {"a\x00", "a", false}, {"\x80", "\x7f", false}, {"b", "ab", false},
		{longest + "k", "l", false}, {longest + "k", longest + "l", false}, {longest, longest + "\x00\x00", false}, {"a", longest + "kk", false}, {longest, longest, false}, {longest, longest[1:], false}, {longest + "k", longest + "k\x00", false},
	} {
		tryFile(t, x.want, func(f *api.File) { f.Least, f.Limit = x.least, x.limit })
	}
	for _, x := range []struct {
		low, high uint64
		want      bool
	}{
		{1, 1, true}, {1, 2, true}, {5, 5, true}, {1, api.MaxSeq, true}, {api.MaxSeq, api.MaxSeq, true}, {api.MaxSeq - 1, api.MaxSeq, true},
		{0, 0, false}, {0, 1, false}, {2, 1, false}, {api.MaxSeq, 1, false}, {api.MaxSeq, api.MaxSeq - 1, false}, {1, api.MaxSeq + 1, false}, {api.MaxSeq + 1, api.MaxSeq + 1, false},
		{1, math.MaxUint64, false}, {math.MaxUint64, math.MaxUint64, false}, {math.MaxUint64, 1, false}, {0, api.MaxSeq, false}, {0, math.MaxUint64, false}, {1 << 63, 1<<63 + 1, false},
	} {
		tryFile(t, x.want, func(f *api.File) { f.Low, f.High = x.low, x.high })
	}
}

// P15.1: what is not valid in one thing stays so whatever else is said; lists that are nil or empty.
func TestValidOfAll(t *testing.T) {
	expectWhole(t, api.Edit{})
	expectWhole(t, api.Edit{Gone: []api.Place{}, Come: []api.Added{}})
	expectWhole(t, full())
	for _, change := range []func(e *api.Edit){
		func(e *api.Edit) { e.Log = -1 }, func(e *api.Edit) { e.Next = -1 }, func(e *api.Edit) { e.Seq = api.MaxSeq + 1 },
		func(e *api.Edit) { e.Gone[1].Level = 7 }, func(e *api.Edit) { e.Gone[0].Number = 0 }, func(e *api.Edit) { e.Gone[1] = e.Gone[0] },
		func(e *api.Edit) { e.Come[1].Level = -1 }, func(e *api.Edit) { e.Come[0].File.Number = 6 }, func(e *api.Edit) { e.Come[0].File = api.File{} }, func(e *api.Edit) { e.Come[1] = api.Added{} },
	} {
		e := full()
		change(&e)
		expectWrong(t, e)
	}
}

// P15.1: many, which must not be held each against each other.
func TestValidOfMany(t *testing.T) {
	var e api.Edit
	for i := range 200000 {
		e.Gone = append(e.Gone, gone(i%7, 1+i/7))
		e.Come = append(e.Come, come(i%7, 1+i))
	}
	b, err := Encode(e)
	if want := plainBytes(e); !Valid(e) || err != api.OK || string(b) != string(want) {
		t.Fatal("many are not told as they are")
	}
	if got, err := Decode(b); err != api.OK || !same(got, e) {
		t.Error("many are not read as they are")
	}
	var away api.Edit
	for _, x := range e.Come {
		away.Gone = append(away.Gone, gone(x.Level, x.File.Number))
	}
	if got := Merge(api.Edit{Come: e.Come}, away); !same(got, api.Edit{}) {
		t.Errorf("what came and went: %s", brief(got))
	}
	e.Gone[199999] = e.Gone[0]
	if Valid(e) {
		t.Error("valid though two of Gone are alike")
	}
	e.Gone = nil
	e.Come[199999] = come(3, 1)
	if Valid(e) {
		t.Error("valid though two of Come have one Number")
	}
}

// P15.3, example 3 and what its words name one by one.
func TestMerge(t *testing.T) {
	for _, x := range []struct{ a, b, want api.Edit }{
		{api.Edit{Come: []api.Added{come(0, 5)}}, api.Edit{Gone: []api.Place{gone(0, 5)}, Come: []api.Added{come(1, 5)}}, api.Edit{Come: []api.Added{come(1, 5)}}},
		{api.Edit{}, api.Edit{}, api.Edit{}},
		{api.Edit{}, full(), full()},
		{full(), api.Edit{}, full()},
		{api.Edit{Log: 1, Next: 2, Seq: 3}, api.Edit{Log: 4}, api.Edit{Log: 4, Next: 2, Seq: 3}},
		{api.Edit{Log: 1, Next: 2, Seq: 3}, api.Edit{Next: 1}, api.Edit{Log: 1, Next: 1, Seq: 3}},
		{api.Edit{Log: 1, Next: 2, Seq: 3}, api.Edit{Seq: 2}, api.Edit{Log: 1, Next: 2, Seq: 2}},
		{api.Edit{Log: 9, Next: 8, Seq: 7}, api.Edit{Log: 4, Next: 5, Seq: 6}, api.Edit{Log: 4, Next: 5, Seq: 6}},
		{api.Edit{}, api.Edit{Log: 4, Next: 5, Seq: 6}, api.Edit{Log: 4, Next: 5, Seq: 6}},
		// What a brings and b takes away: at its level both are left out, at another both stay.
		{api.Edit{Come: []api.Added{come(0, 5), come(0, 6)}}, api.Edit{Gone: []api.Place{gone(0, 5)}}, api.Edit{Come: []api.Added{come(0, 6)}}},
		{api.Edit{Come: []api.Added{come(0, 5)}}, api.Edit{Gone: []api.Place{gone(1, 5)}}, api.Edit{Gone: []api.Place{gone(1, 5)}, Come: []api.Added{come(0, 5)}}},
		{api.Edit{Come: []api.Added{come(5, 1)}}, api.Edit{Gone: []api.Place{gone(1, 5)}}, api.Edit{Gone: []api.Place{gone(1, 5)}, Come: []api.Added{come(5, 1)}}},
		// What a takes away and b brings stays both.
		{api.Edit{Gone: []api.Place{gone(0, 5)}}, api.Edit{Come: []api.Added{come(0, 5)}}, api.Edit{Gone: []api.Place{gone(0, 5)}, Come: []api.Added{come(0, 5)}}},
		// What b both takes away and brings is b's own.
		{api.Edit{}, api.Edit{Gone: []api.Place{gone(0, 5)}, Come: []api.Added{come(0, 5)}}, api.Edit{Gone: []api.Place{gone(0, 5)}, Come: []api.Added{come(0, 5)}}},
		// So is what a both takes away and brings.
		{api.Edit{Gone: []api.Place{gone(0, 5)}, Come: []api.Added{come(0, 5)}}, api.Edit{}, api.Edit{Gone: []api.Place{gone(0, 5)}, Come: []api.Added{come(0, 5)}}},
		// The order: a's, then b's, each as they stood.
		{api.Edit{Gone: []api.Place{gone(3, 9), gone(1, 2)}, Come: []api.Added{come(2, 8), come(0, 1), come(1, 7)}}, api.Edit{Gone: []api.Place{gone(2, 2), gone(0, 1), gone(1, 1)}, Come: []api.Added{come(4, 6), come(0, 3)}},
			api.Edit{Gone: []api.Place{gone(3, 9), gone(1, 2), gone(2, 2), gone(1, 1)}, Come: []api.Added{come(2, 8), come(1, 7), come(4, 6), come(0, 3)}}},
		// What is not valid is merged by the same words.
		{api.Edit{Log: -1, Gone: []api.Place{gone(-1, 0), gone(-1, 0)}, Come: []api.Added{come(9, 9), come(9, 9)}}, api.Edit{Next: -2, Seq: math.MaxUint64, Gone: []api.Place{gone(-1, 0), gone(9, 9), gone(9, 8)}},
			api.Edit{Log: -1, Next: -2, Seq: math.MaxUint64, Gone: []api.Place{gone(-1, 0), gone(-1, 0), gone(-1, 0), gone(9, 8)}}},
	} {
		if got := Merge(x.a, x.b); !same(got, x.want) {
			t.Errorf("Merge(%+v, %+v) = %+v, want %+v", x.a, x.b, got, x.want)
		}
	}
}

// P15.3: edits of few Numbers against the plain words.
func TestMergeOfAny(t *testing.T) {
	chance := rand.New(rand.NewSource(15))
	for range 20000 {
		a, b := anyEdit(chance, 4), anyEdit(chance, 4)
		if got, want := Merge(a, b), plainMerge(a, b); !same(got, want) {
			t.Fatalf("Merge(%+v, %+v) = %+v, want %+v", a, b, got, want)
		}
	}
}

// P15.4.
func TestWhole(t *testing.T) {
	for _, x := range []struct {
		l    api.Levels
		want []api.Added
	}{
		{nil, nil},
		{api.Levels{}, nil},
		{api.Levels{nil, {}, nil}, nil},
		{api.Levels{{file(5)}}, []api.Added{come(0, 5)}},
		{api.Levels{nil, {file(5)}}, []api.Added{come(1, 5)}},
		{api.Levels{{file(3), file(4)}, nil, {file(9), file(2), file(7)}, {}, {file(1)}, nil}, []api.Added{come(0, 3), come(0, 4), come(2, 9), come(2, 2), come(2, 7), come(4, 1)}},
		{api.Levels{nil, nil, nil, nil, nil, nil, nil, {file(1), file(1), {}}}, []api.Added{come(7, 1), come(7, 1), {Level: 7}}},
		{api.Levels{{full().Come[0].File}, {full().Come[1].File}}, []api.Added{{Level: 0, File: full().Come[0].File}, {Level: 1, File: full().Come[1].File}}},
	} {
		for _, said := range []api.Edit{{}, {Log: 1, Next: 6, Seq: 4}, {Log: -1, Next: math.MinInt, Seq: math.MaxUint64}, {Log: math.MaxInt}, {Next: 3}, {Seq: 1}} {
			want := said
			want.Come = x.want
			if got := Whole(x.l, said.Log, said.Next, said.Seq); !same(got, want) {
				t.Errorf("Whole(%+v, %d, %d, %d) = %+v", x.l, said.Log, said.Next, said.Seq, got)
			}
		}
	}
	if w := Whole(api.Levels{{file(5)}, {file(4)}}, 1, 6, 4); !Valid(w) {
		t.Errorf("not valid: %+v", w)
	}
}

// unlikeThree tells whether no place comes twice in what goes and no Number in what comes, of three together.
func unlikeThree(a, b, c api.Edit) bool {
	return plainValid(api.Edit{Gone: slices.Concat(a.Gone, b.Gone, c.Gone), Come: slices.Concat(a.Come, b.Come, c.Come)})
}

// P15.5: three edits merged both ways.
func TestMergeOfThree(t *testing.T) {
	chance := rand.New(rand.NewSource(155))
	met := 0
	for met < 3000 {
		a, b, c := anyEdit(chance, 2), anyEdit(chance, 2), anyEdit(chance, 2)
		if !unlikeThree(a, b, c) {
			continue
		}
		met++
		left, right := Merge(Merge(a, b), c), Merge(a, Merge(b, c))
		if !same(left, right) {
			t.Fatalf("of %+v, %+v, %+v: %+v and %+v", a, b, c, left, right)
		}
	}
	a, b, c := api.Edit{Log: 1, Come: []api.Added{come(0, 5)}}, api.Edit{Next: 2, Gone: []api.Place{gone(0, 5)}, Come: []api.Added{come(1, 6)}}, api.Edit{Seq: 3, Gone: []api.Place{gone(1, 6)}, Come: []api.Added{come(2, 7)}}
	want := api.Edit{Log: 1, Next: 2, Seq: 3, Come: []api.Added{come(2, 7)}}
	if left, right := Merge(Merge(a, b), c), Merge(a, Merge(b, c)); !same(left, want) || !same(right, want) {
		t.Errorf("of a way through three levels: %+v and %+v", left, right)
	}
}

// Rule 4: what is handed in stays as it was, its spare room too, and is not kept; what is handed out is new memory.
func TestMemoryOfMergeAndWhole(t *testing.T) {
	for _, x := range []struct{ a, b api.Edit }{
		{full(), api.Edit{}}, {api.Edit{}, full()}, {full(), full()}, {api.Edit{Gone: []api.Place{}, Come: []api.Added{}}, api.Edit{Gone: []api.Place{}, Come: []api.Added{}}},
		{api.Edit{Come: []api.Added{come(0, 5), come(1, 6)}}, api.Edit{Gone: []api.Place{gone(0, 5), gone(0, 6)}, Come: []api.Added{come(1, 5)}}},
	} {
		want := plainMerge(x.a, x.b)
		a, sameA := filled(x.a)
		b, sameB := filled(x.b)
		got, other := Merge(a, b), Merge(a, b)
		if spoil(other); !same(got, want) || !sameA() || !sameB() {
			t.Errorf("an answer of Merge shares memory: %+v", got)
		}
		if spoil(a); !same(got, want) {
			t.Errorf("Merge keeps what was handed in: %+v", got)
		}
		if spoil(b); !same(got, want) {
			t.Errorf("Merge keeps what was handed in: %+v", got)
		}
		_ = append(got.Gone, gone(6, 6))
		_ = append(got.Come, come(6, 6))
		if !same(got, want) {
			t.Errorf("what is put behind an answer changes it: %+v", got)
		}
	}
	level := append(make([]api.File, 0, 4), file(5), file(6))
	l := append(make(api.Levels, 0, 3), level, nil)
	want := api.Edit{Come: []api.Added{come(0, 5), come(0, 6)}}
	got, other := Whole(l, 0, 0, 0), Whole(l, 0, 0, 0)
	spoil(other)
	if level[0] != file(5) || level[:4][2] != (api.File{}) || l[:3][2] != nil || !same(got, want) {
		t.Errorf("an answer of Whole shares memory: %+v", got)
	}
	level[0], l[1] = file(9), level
	if !same(got, want) {
		t.Errorf("Whole keeps what was handed in: %+v", got)
	}
}
