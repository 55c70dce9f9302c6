package version

import (
	"math"
	"math/rand"
	"slices"
	"strings"
	"testing"

	"moraine/api"
)

// The chapter's second example.
func TestSecondExample(t *testing.T) {
	l := begun()
	if got := Asks(l, "b"); !slices.Equal(got, []api.Place{gone(0, 5), gone(0, 3), gone(1, 4)}) {
		t.Errorf("Asks: %v", got)
	}
	two, four := l[1][0], l[1][1]
	if got := Over(l, 1, "aa", "b"); !slices.Equal(got, []api.File{two}) {
		t.Errorf("Over up to b: %s", brief(got))
	}
	if got := Over(l, 1, "aa", ""); !slices.Equal(got, []api.File{two, four}) {
		t.Errorf("Over without limit: %s", brief(got))
	}
	if got := Over(l, 1, "b", "b"); len(got) != 0 {
		t.Errorf("Over of nothing: %s", brief(got))
	}
	if got := Below(l, 0); !slices.Equal(got, []api.File{two, four}) {
		t.Errorf("Below: %s", brief(got))
	}
}

// P16.3: the bytes of a level.
func TestSize(t *testing.T) {
	l := wide()
	for level, want := range []int{24, 0, 600, 0, 1000, 0, 0, 0} {
		if n := Size(l, level); n != want {
			t.Errorf("Size of %d: %d", level, n)
		}
	}
	for _, level := range []int{-1, -2, math.MinInt, math.MaxInt, 1 << 32} {
		if n := Size(l, level); n != 0 {
			t.Errorf("Size of %d: %d", level, n)
		}
	}
	many := make(api.Levels, 1)
	for i := range 100 {
		x := f(i+1, "a", "b")
		x.Size = api.MaxQuota
		many[0] = append(many[0], x)
	}
	if n := Size(many, 0); n != 100<<28 {
		t.Errorf("of 100 greatest files: %d", n)
	}
}

// P16.3: how many files, and their Numbers.
func TestFilesAndNumbers(t *testing.T) {
	if n, list := Files(wide()), Numbers(wide()); n != 7 || !slices.Equal(list, []int{1, 2, 4, 9, 10, 11, 12}) {
		t.Errorf("%d: %v", n, list)
	}
	if n, list := Files(begun()), Numbers(begun()); n != 4 || !slices.Equal(list, []int{2, 3, 4, 5}) {
		t.Errorf("%d: %v", n, list)
	}
	if n, list := Files(make(api.Levels, 3)), Numbers(make(api.Levels, 3)); n != 0 || len(list) != 0 {
		t.Errorf("%d: %v", n, list)
	}
	l := api.Levels{{f(300, "a", "b"), f(api.MaxNumber, "a", "b")}, {f(256, "a", "b"), f(255, "b", "c"), f(1, "c", "d")}}
	if list := Numbers(l); !slices.Equal(list, []int{1, 255, 256, 300, api.MaxNumber}) {
		t.Errorf("%v", list)
	}
}

// P16.3: a file by its Number, and Numbers that are not there.
func TestFind(t *testing.T) {
	for _, x := range plainPlaces(wide()) {
		if level, got, ok := Find(wide(), x.File.Number); level != x.Level || got != x.File || !ok {
			t.Errorf("Find of %d: %d, %s, %v", x.File.Number, level, brief(got), ok)
		}
	}
	for _, number := range append(fileNumbers(), 3, 5, 8, 13) {
		if level, got, ok := Find(wide(), number); level != 0 || got != (api.File{}) || ok {
			t.Errorf("Find of %d: %d, %s, %v", number, level, brief(got), ok)
		}
		if level, got, ok := Find(make(api.Levels, 2), number); level != 0 || got != (api.File{}) || ok {
			t.Errorf("Find of %d among none: %d, %s, %v", number, level, brief(got), ok)
		}
	}
}

// P16.3: the files of the levels with greater numbers: of a level that there is not, those of each greater one that there is.
func TestBelow(t *testing.T) {
	l := wide()
	all := slices.Concat(l...)
	for _, x := range []struct {
		level int
		want  []api.File
	}{
		{-1, all}, {-2, all}, {math.MinInt, all}, {0, all[3:]}, {1, all[3:]}, {2, all[6:]}, {3, all[6:]},
		{4, nil}, {5, nil}, {api.MaxLevels, nil}, {math.MaxInt - 1, nil}, {math.MaxInt, nil},
	} {
		if got := Below(l, x.level); !slices.Equal(got, x.want) {
			t.Errorf("Below %d: %s", x.level, brief(got))
		}
	}
}

// P16.4: bounds that just touch a file's, limits that are empty, the same as least and below it.
func TestOver(t *testing.T) {
	// One file from d up to g, in level 0 and in level 1, between others.
	l := api.Levels{{f(3, "d", "g"), f(4, "d", "g")}, {f(2, "a", "b"), f(1, "d", "g"), f(9, "p", "q")}}
	for _, x := range []struct {
		least, limit string
		want         bool
	}{
		{"d", "g", true}, {"d", "d\x00", true}, {"f\xff", "g", true}, {"e", "f", true}, {"c", "h", true}, {"c", "e", true}, {"e", "h", true},
		{"c", "d", false}, {"c", "d\x00", true}, {"g", "h", false}, {"f\xff\xff", "h", true}, {"g\x00", "h", false}, {"c", "cc", false},
		{"d", "", true}, {"f", "", true}, {"g", "", false}, {"g\x00", "", false}, {"", "", true}, {"", "d", false}, {"", "d\x00", true},
		{"d", "d", false}, {"e", "e", false}, {"g", "g", false}, {"e", "d", false}, {"f", "d\x00", false}, {"h", "c", false}, {"g", "d", false},
	} {
		for level := range l {
			want := 0
			if x.want {
				want = 2 - level
			}
			got := slices.DeleteFunc(Over(l, level, x.least, x.limit), func(y api.File) bool { return y.Least != "d" })
			if len(got) != want {
				t.Errorf("Over(%d, %q, %q) = %s", level, x.least, x.limit, brief(got))
			}
		}
	}
	for _, level := range []int{-1, 2, 3, api.MaxLevels, math.MinInt, math.MaxInt} {
		if got := Over(l, level, "", ""); len(got) != 0 {
			t.Errorf("Over of level %d: %s", level, brief(got))
		}
	}
	if got := Over(l, 1, "", ""); !slices.Equal(got, l[1]) {
		t.Errorf("all of level 1: %s", brief(got))
	}
	if got := Over(l, 0, "", ""); !slices.Equal(got, l[0]) {
		t.Errorf("all of level 0: %s", brief(got))
	}
}

// P16.4: level 0 tells its files in its own order, not in that of their keys.
func TestOverOrder(t *testing.T) {
	l := wide()
	if got := Over(l, 0, "a", "z"); !slices.Equal(got, l[0]) {
		t.Errorf("%s", brief(got))
	}
	if got := Over(l, 0, "f", "g"); !slices.Equal(got, []api.File{l[0][0], l[0][2]}) {
		t.Errorf("%s", brief(got))
	}
	if got := Over(l, 2, "c", "g\x00"); !slices.Equal(got, l[2]) {
		t.Errorf("%s", brief(got))
	}
	if got := Over(l, 2, "e", "g"); len(got) != 0 {
		t.Errorf("%s", brief(got))
	}
}

// P16.4: keys just at a file's Least and Limit, several files of level 0, texts that are no keys.
func TestAsks(t *testing.T) {
	l := wide()
	for _, x := range []struct {
		key  string
		want []api.Place
	}{
		{"a", []api.Place{gone(0, 11), gone(4, 1)}},
		{"b", []api.Place{gone(0, 11), gone(2, 9), gone(4, 1)}},
		{"b\xff", []api.Place{gone(0, 11), gone(2, 9), gone(4, 1)}},
		{"c", []api.Place{gone(0, 12), gone(0, 11), gone(0, 4), gone(2, 9), gone(4, 1)}},
		{"c\xff", []api.Place{gone(0, 12), gone(0, 11), gone(0, 4), gone(2, 9), gone(4, 1)}},
		{"d", []api.Place{gone(0, 12), gone(0, 11), gone(0, 4), gone(2, 2), gone(4, 1)}},
		{"e", []api.Place{gone(0, 12), gone(0, 11), gone(0, 4), gone(4, 1)}},
		{"f", []api.Place{gone(0, 12), gone(0, 4), gone(4, 1)}},
		{"h", []api.Place{gone(0, 12), gone(0, 4), gone(2, 10), gone(4, 1)}},
		{"h\x00", []api.Place{gone(0, 12), gone(0, 4), gone(4, 1)}},
		{"k", []api.Place{gone(4, 1)}},
		{"y\xff", []api.Place{gone(4, 1)}},
		{"z", nil}, {"", nil}, {"`", nil}, {"\xff", nil},
		{"k" + strings.Repeat("k", api.MaxKey), []api.Place{gone(4, 1)}},
	} {
		if got := Asks(l, x.key); !slices.Equal(got, x.want) {
			t.Errorf("Asks(%s) = %v", brief(x.key), got)
		}
	}
}

// P16.5: the least Least and the greatest Limit of any files.
func TestSpan(t *testing.T) {
	for _, x := range []struct {
		l            []api.File
		least, limit string
		ok           bool
	}{
		{nil, "", "", false},
		{[]api.File{}, "", "", false},
		{[]api.File{f(1, "b", "c")}, "b", "c", true},
		{[]api.File{f(1, "c", "p"), f(2, "a", "d"), f(3, "b", "z"), f(4, "d", "e")}, "a", "z", true},
		{[]api.File{f(1, "b", "z"), f(2, "a", "d"), f(3, "c", "p")}, "a", "z", true},
		{[]api.File{f(1, "a", "d"), f(2, "c", "p"), f(3, "b", "z")}, "a", "z", true},
		{[]api.File{f(1, "c", "d"), f(2, "b", "c"), f(3, "a", "b")}, "a", "d", true},
		{[]api.File{f(1, "m", "p"), f(2, "m", "p")}, "m", "p", true},
		{[]api.File{f(1, "\x80", "\xff"), f(2, "\x7f", "\xff\x00")}, "\x7f", "\xff\x00", true},
		{[]api.File{{}}, "", "", true},
		{[]api.File{f(0, "z", "a"), {}, f(-1, "y", "b")}, "", "b", true},
		{[]api.File{f(0, "z", "a"), f(0, "y", "")}, "y", "a", true},
	} {
		if least, limit, ok := Span(x.l); least != x.least || limit != x.limit || ok != x.ok {
			t.Errorf("Span(%s) = %q, %q, %v", brief(x.l), least, limit, ok)
		}
	}
}

// expectSame expects two to be the same or not, whichever comes first.
func expectSame(t *testing.T, want bool, a, b api.Levels) {
	t.Helper()
	if Same(a, b) != want || Same(b, a) != want {
		t.Errorf("Same(%s, %s) = %v, the other way %v", brief(a), brief(b), Same(a, b), Same(b, a))
	}
}

// P16.5: as many levels, and in each the same files in the same order, valid or not.
func TestSame(t *testing.T) {
	wrong := api.Levels{{f(5, "b", "d"), f(3, "z", "c")}, {{}}, nil, nil, nil, nil, nil, nil, {f(5, "", "")}}
	for _, l := range []api.Levels{begun(), wide(), wrong, nil, {}, {nil}, make(api.Levels, api.MaxLevels), make(api.Levels, 9)} {
		expectSame(t, true, l, copied(l))
		expectSame(t, false, l, append(copied(l), nil))
		expectSame(t, false, l, append(copied(l), []api.File{f(1, "a", "b")}))
		for level := range l {
			longer := copied(l)
			longer[level] = append(longer[level], f(80, "x", "z"))
			expectSame(t, false, l, longer)
			if len(l[level]) > 1 {
				turned := copied(l)
				slices.Reverse(turned[level])
				expectSame(t, false, l, turned)
			}
		}
	}
	expectSame(t, true, nil, api.Levels{})
	expectSame(t, true, api.Levels{nil, {}}, api.Levels{{}, nil})
	expectSame(t, false, api.Levels{{f(1, "a", "b")}, nil}, api.Levels{nil, {f(1, "a", "b")}})
	expectSame(t, false, begun(), wide())
}

// P16.5: files that differ in one field alone are not the same.
func TestSameFields(t *testing.T) {
	for level, files := range begun() {
		for i := range files {
			for _, change := range []func(x *api.File){
				func(x *api.File) { x.Number += 1 << 32 },
				func(x *api.File) { x.Size++ },
				func(x *api.File) { x.Least += "\x00" },
				func(x *api.File) { x.Limit += "\x00" },
				func(x *api.File) { x.Low = 0 },
				func(x *api.File) { x.High += 1 << 63 },
			} {
				other := begun()
				change(&other[level][i])
				expectSame(t, false, begun(), other)
			}
		}
	}
}

// P16.3, P16.4: random levels, held against the chapter's words at all their bounds.
func TestAllRandom(t *testing.T) {
	chance := rand.New(rand.NewSource(4))
	for range 60 {
		expectAll(t, anyLevels(chance))
	}
}

// P16.6: behind Apply, also of many edits one behind the other, levels are a version's and all calls tell it.
func TestManyEdits(t *testing.T) {
	chance := rand.New(rand.NewSource(5))
	l := make(api.Levels, 4)
	for range 400 {
		e := anyEdit(chance, l)
		count := Files(l)
		next, err := Apply(l, e)
		if err != api.OK {
			continue
		}
		if l = next; !Valid(l) || Files(l) != count-len(e.Gone)+len(e.Come) {
			t.Fatalf("behind %s: %s", brief(e), brief(l))
		}
	}
	expectAll(t, l)
}

// P16.7: in each level but 0 at most one file bears on a key, and Over of a file's own bounds has it.
func TestOneBears(t *testing.T) {
	chance := rand.New(rand.NewSource(6))
	for range 300 {
		l := anyLevels(chance)
		for _, key := range boundsOf(l) {
			var count [api.MaxLevels]int
			for _, p := range Asks(l, key) {
				count[p.Level]++
			}
			if slices.Max(count[1:]) > 1 {
				t.Errorf("Asks(%s, %q): %v", brief(l), key, count)
			}
		}
		for _, x := range plainPlaces(l) {
			if !slices.Contains(Over(l, x.Level, x.File.Least, x.File.Limit), x.File) {
				t.Errorf("Over(%s, %d) has not its file %d", brief(l), x.Level, x.File.Number)
			}
		}
	}
}

// P16.7: a range cut in two at each key in it.
func TestCutInTwo(t *testing.T) {
	chance := rand.New(rand.NewSource(7))
	for round := range 20 {
		l := anyLevels(chance)
		if round == 0 {
			l = wide()
		}
		bounds := boundsOf(l)
		for level := range l {
			for range 150 {
				least, limit, key := bounds[chance.Intn(len(bounds))], bounds[chance.Intn(len(bounds))], bounds[chance.Intn(len(bounds))]
				if key == "" || key < least || limit != "" && key >= limit {
					continue
				}
				whole := Over(l, level, least, limit)
				first, second := Over(l, level, least, key), Over(l, level, key, limit)
				for _, x := range l[level] {
					if slices.Contains(whole, x) != (slices.Contains(first, x) || slices.Contains(second, x)) {
						t.Errorf("%s, level %d, %q to %q cut at %q: file %d", brief(l), level, least, limit, key, x.Number)
					}
				}
			}
		}
	}
}

// All calls with as many files as a disk bears, and more.
func TestMany(t *testing.T) {
	l := make(api.Levels, 2)
	var e api.Edit
	const many = 20000
	key := func(i int) string { return string([]byte{1 + byte(i>>16), byte(i >> 8), byte(i)}) }
	for i := range many {
		e.Come = append(e.Come, come(0, f(2*(many-i), key(many-i), key(many-i)+"\x00")), come(1, f(2*i+1, key(many-i), key(many-i+1))))
	}
	l, err := Apply(l, e)
	if err != api.OK || Files(l) != 2*many {
		t.Fatalf("error %d", int(err))
	}
	if got := Over(l, 1, key(100), key(200)); len(got) != 100 || got[0].Least != key(100) || got[99].Limit != key(200) {
		t.Errorf("Over: %s", brief(got))
	}
	if got := Asks(l, key(700)); !slices.Equal(got, []api.Place{gone(0, 1400), gone(1, 2*(many-700)+1)}) {
		t.Errorf("Asks: %v", got)
	}
	var back api.Edit
	for _, x := range e.Come {
		back.Gone = append(back.Gone, gone(x.Level, x.File.Number))
	}
	if got, err := Apply(l, back); err != api.OK || Files(got) != 0 {
		t.Errorf("taken back: error %d", int(err))
	}
}
