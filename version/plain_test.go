package version

import (
	"fmt"
	"math"
	"math/rand"
	"reflect"
	"slices"
	"strings"
	"testing"

	"moraine/api"
)

// What the chapter says, word by word and without the package's own functions: the tests hold the package against it.

// brief tells the beginning of anything.
func brief(x any) string {
	s := fmt.Sprintf("%+v", x)
	return s[:min(len(s), 300)]
}

// f is a file as in the chapter's examples.
func f(number int, least, limit string) api.File {
	return api.File{Number: number, Size: 10, Least: least, Limit: limit, Low: 1, High: 1}
}

func gone(level, number int) api.Place { return api.Place{Level: level, Number: number} }

func come(level int, x api.File) api.Added { return api.Added{Level: level, File: x} }

// begun are the chapter's levels.
func begun() api.Levels {
	return api.Levels{{f(3, "a", "c"), f(5, "b", "d")}, {f(2, "a", "b"), f(4, "b", "c")}}
}

// wide are levels with empty ones between others, with files in level 0 that overlap and such in the others that touch.
func wide() api.Levels {
	return api.Levels{
		{{Number: 4, Size: 7, Least: "c", Limit: "k", Low: 20, High: 22}, {Number: 11, Size: 8, Least: "a", Limit: "f", Low: 23, High: 24}, {Number: 12, Size: 9, Least: "c", Limit: "k", Low: 25, High: 26}},
		nil,
		{{Number: 9, Size: 100, Least: "b", Limit: "d", Low: 10, High: 11}, {Number: 2, Size: 200, Least: "d", Limit: "e", Low: 12, High: 13}, {Number: 10, Size: 300, Least: "g", Limit: "h\x00", Low: 14, High: 15}},
		{},
		{{Number: 1, Size: 1000, Least: "a", Limit: "z", Low: 1, High: 9}},
	}
}

func plainMayBe(x api.File) bool {
	ok := x.Number >= 1 && x.Number <= 1<<31-1 && x.Size >= 1 && x.Size <= 1<<28
	ok = ok && len(x.Least) >= 1 && len(x.Least) <= 1024 && x.Limit > x.Least && len(x.Limit) <= 1025
	return ok && x.Low >= 1 && x.High >= x.Low && x.High <= 1<<56-1
}

func plainBears(x api.File, key string) bool { return !(key < x.Least) && key < x.Limit }

func plainOverlaps(x api.File, least, limit string) bool {
	return x.Limit > least && (limit == "" || x.Least < limit) && (limit == "" || limit > least)
}

// plainPlaces tells where all files are, level by level.
func plainPlaces(l api.Levels) []api.Added {
	var out []api.Added
	for level := range l {
		for i := range l[level] {
			out = append(out, api.Added{Level: level, File: l[level][i]})
		}
	}
	return out
}

// plainValid holds each two against each other.
func plainValid(l api.Levels) bool {
	ok := len(l) >= 1 && len(l) <= 7
	all := plainPlaces(l)
	for i, x := range all {
		ok = ok && plainMayBe(x.File)
		for _, y := range all[:i] {
			ok = ok && x.File.Number != y.File.Number
			if y.Level == x.Level && x.Level == 0 {
				ok = ok && y.File.Number < x.File.Number
			}
			if y.Level == x.Level && x.Level != 0 {
				ok = ok && !(y.File.Limit > x.File.Least)
			}
		}
	}
	return ok
}

// plainInsert puts a file ahead of the first one that is behind it.
func plainInsert(files []api.File, level int, x api.File) []api.File {
	i := slices.IndexFunc(files, func(y api.File) bool {
		if level == 0 {
			return y.Number > x.Number
		}
		return y.Least > x.Least
	})
	if i < 0 {
		i = len(files)
	}
	return slices.Insert(files, i, x)
}

func plainApply(l api.Levels, e api.Edit) (api.Levels, api.Errno) {
	if !plainValid(l) {
		return nil, api.ErrArg
	}
	out := copied(l)
	for i, p := range e.Gone {
		at := -1
		if p.Level >= 0 && p.Level < len(out) {
			at = slices.IndexFunc(out[p.Level], func(x api.File) bool { return x.Number == p.Number })
		}
		if at < 0 || slices.Contains(e.Gone[:i], p) {
			return nil, api.ErrVersion
		}
		out[p.Level] = slices.Delete(out[p.Level], at, at+1)
	}
	for _, x := range e.Come {
		if x.Level < 0 || x.Level >= len(out) {
			return nil, api.ErrVersion
		}
		out[x.Level] = plainInsert(out[x.Level], x.Level, x.File)
	}
	if !plainValid(out) {
		return nil, api.ErrVersion
	}
	return out, api.OK
}

func plainAsks(l api.Levels, key string) []api.Place {
	var zero, rest []api.Place
	for _, x := range plainPlaces(l) {
		p := api.Place{Level: x.Level, Number: x.File.Number}
		switch {
		case !plainBears(x.File, key):
		case x.Level == 0:
			zero = append(zero, p)
		default:
			rest = append(rest, p)
		}
	}
	slices.SortFunc(zero, func(a, b api.Place) int { return b.Number - a.Number })
	return append(zero, rest...)
}

func plainOver(l api.Levels, level int, least, limit string) []api.File {
	var out []api.File
	for _, x := range plainPlaces(l) {
		if x.Level == level && plainOverlaps(x.File, least, limit) {
			out = append(out, x.File)
		}
	}
	return out
}

func plainBelow(l api.Levels, level int) []api.File {
	var out []api.File
	for _, x := range plainPlaces(l) {
		if x.Level > level {
			out = append(out, x.File)
		}
	}
	return out
}

func plainSize(l api.Levels, level int) int {
	n := 0
	for _, x := range plainPlaces(l) {
		if x.Level == level {
			n += x.File.Size
		}
	}
	return n
}

func plainNumbers(l api.Levels) []int {
	var out []int
	for _, x := range plainPlaces(l) {
		out = append(out, x.File.Number)
	}
	slices.Sort(out)
	return out
}

// same tells whether levels are the same: a list without an element may be nil or empty.
func same(a, b api.Levels) bool {
	return len(a) == len(b) && slices.EqualFunc(a, b, slices.Equal[[]api.File])
}

// copied tells the same levels in new memory.
func copied(l api.Levels) api.Levels {
	out := make(api.Levels, len(l))
	for i := range l {
		out[i] = append([]api.File(nil), l[i]...)
	}
	return out
}

// levelNumbers are levels that there are, and such that there are not.
func levelNumbers() []int {
	return []int{-1, 0, 1, 2, 3, 4, 5, 6, 7, 8, -2, 1 << 31, 1 << 32, math.MinInt, math.MaxInt, math.MaxInt - 1}
}

// fileNumbers are Numbers that no file of the tests has, and such that none can have.
func fileNumbers() []int {
	return []int{0, -1, 999, api.MaxNumber, api.MaxNumber + 1, 1<<32 + 1, math.MinInt, math.MaxInt}
}

// boundsOf tells bounds at and beside those of files.
func boundsOf(l api.Levels) []string {
	out := []string{"", "\x00", "m", "\xff", strings.Repeat("\xff", 1030)}
	for _, x := range plainPlaces(l) {
		for _, s := range []string{x.File.Least, x.File.Limit} {
			out = append(out, s, s+"\x00", s[:max(len(s), 1)-1])
		}
	}
	slices.Sort(out)
	return slices.Compact(out)
}

// expectAll expects of a version's levels what the chapter says, at all bounds of theirs.
func expectAll(t *testing.T, l api.Levels) {
	t.Helper()
	if !Valid(l) || !plainValid(l) {
		t.Fatalf("not valid: %s", brief(l))
	}
	if n := Files(l); n != len(plainPlaces(l)) {
		t.Errorf("Files(%s) = %d", brief(l), n)
	}
	if n := Numbers(l); !slices.Equal(n, plainNumbers(l)) {
		t.Errorf("Numbers(%s) = %v", brief(l), n)
	}
	for _, x := range plainPlaces(l) {
		if level, got, ok := Find(l, x.File.Number); level != x.Level || got != x.File || !ok {
			t.Errorf("Find(%s, %d) = %d, %s, %v", brief(l), x.File.Number, level, brief(got), ok)
		}
	}
	bounds := boundsOf(l)
	for _, key := range bounds {
		if got := Asks(l, key); !slices.Equal(got, plainAsks(l, key)) {
			t.Errorf("Asks(%s, %s) = %v", brief(l), brief(key), got)
		}
	}
	for _, level := range levelNumbers() {
		if n := Size(l, level); n != plainSize(l, level) {
			t.Errorf("Size(%s, %d) = %d", brief(l), level, n)
		}
		if got := Below(l, level); !slices.Equal(got, plainBelow(l, level)) {
			t.Errorf("Below(%s, %d) = %s", brief(l), level, brief(got))
		}
		for _, least := range bounds {
			for _, limit := range bounds {
				if got := Over(l, level, least, limit); !slices.Equal(got, plainOver(l, level, least, limit)) {
					t.Errorf("Over(%s, %d, %s, %s) = %s", brief(l), level, brief(least), brief(limit), brief(got))
				}
			}
		}
	}
}

// expectNone expects of levels that are no version's that each call answers nothing.
func expectNone(t *testing.T, l api.Levels) {
	t.Helper()
	if Valid(l) || plainValid(l) {
		t.Fatalf("valid: %s", brief(l))
	}
	edits := []api.Edit{{}, {Gone: []api.Place{gone(0, 1), gone(0, 1)}}, {Gone: []api.Place{gone(9, 9)}}, {Come: []api.Added{come(-1, f(77, "a", "b"))}}, {Come: []api.Added{come(0, f(77, "a", "b"))}}}
	if all := plainPlaces(l); len(all) > 0 {
		edits = append(edits, api.Edit{Gone: []api.Place{gone(all[0].Level, all[0].File.Number)}})
	}
	for _, e := range edits {
		if got, err := Apply(l, e); err != api.ErrArg || len(got) != 0 {
			t.Errorf("Apply(%s, %s) = %s, error %d", brief(l), brief(e), brief(got), int(err))
		}
	}
	if n, list := Files(l), Numbers(l); n != 0 || len(list) != 0 {
		t.Errorf("%s: %d files, Numbers %v", brief(l), n, list)
	}
	numbers := fileNumbers()
	for _, x := range plainPlaces(l) {
		numbers = append(numbers, x.File.Number)
	}
	for _, number := range numbers {
		if level, got, ok := Find(l, number); level != 0 || got != (api.File{}) || ok {
			t.Errorf("Find(%s, %d) = %d, %s, %v", brief(l), number, level, brief(got), ok)
		}
	}
	for _, key := range boundsOf(l) {
		if got := Asks(l, key); len(got) != 0 {
			t.Errorf("Asks(%s, %s) = %v", brief(l), brief(key), got)
		}
	}
	for _, level := range levelNumbers() {
		n, under, over := Size(l, level), Below(l, level), Over(l, level, "", "")
		if n != 0 || len(under) != 0 || len(over) != 0 {
			t.Errorf("%s: Size %d, Below %s, Over %s of %d", brief(l), n, brief(under), brief(over), level)
		}
	}
}

// expectLevels expects levels to be a version's or not, and of each what follows.
func expectLevels(t *testing.T, want bool, l api.Levels) {
	t.Helper()
	if want {
		expectAll(t, l)
	} else {
		expectNone(t, l)
	}
}

// expectApply expects what an edit makes of a version's levels, an error or other levels, and answers these.
func expectApply(t *testing.T, l api.Levels, e api.Edit, want api.Errno) api.Levels {
	t.Helper()
	wanted, plain := plainApply(l, e)
	if plain != want {
		t.Fatalf("the chapter's words: Apply(%s, %s): error %d", brief(l), brief(e), int(plain))
	}
	got, err := Apply(l, e)
	if err != want || !same(got, wanted) {
		t.Errorf("Apply(%s, %s) = %s, error %d; want %s, error %d", brief(l), brief(e), brief(got), int(err), brief(wanted), int(want))
	}
	return got
}

// filled tells the same levels with spare room that is not empty, in the levels' list and in each of its lists, and a call that tells whether all of it is still as it was.
func filled(l api.Levels) (api.Levels, func() bool) {
	out := make(api.Levels, len(l)+2)
	for i := range out {
		list := make([]api.File, 0, 40)
		if i < len(l) {
			list = append(list, l[i]...)
		}
		for n := range 3 {
			list[:cap(list)][len(list)+n] = f(900+10*i+n, "a", "zz")
		}
		out[i] = list
	}
	var want api.Levels
	for _, list := range out {
		want = append(want, slices.Clone(list[:cap(list)]))
	}
	return out[:len(l)], func() bool {
		for i, list := range out {
			if !reflect.DeepEqual(want[i], list[:cap(list)]) {
				return false
			}
		}
		return true
	}
}

// spoil changes all that levels reach, their spare room too.
func spoil(l api.Levels) {
	for _, files := range l {
		spoilFiles(files)
	}
	for i := range l[:cap(l)] {
		l[:cap(l)][i] = []api.File{f(-7, "spoilt", "")}
	}
}

func spoilFiles(l []api.File) {
	for i := range l[:cap(l)] {
		l[:cap(l)][i] = f(-7, "spoilt", "")
	}
}

// anyKey makes one of few keys, so that they meet.
func anyKey(chance *rand.Rand) string {
	return []string{"a", "a\x00", "b", "ba", "c", "c\xff", "d", "e", "f", "f\x00", "g", "h"}[chance.Intn(12)]
}

func anyFile(chance *rand.Rand, number int, least, limit string) api.File {
	low := 1 + chance.Uint64()>>(10+chance.Intn(50))
	return api.File{Number: number, Size: 1 + chance.Intn(1<<chance.Intn(28)), Least: least, Limit: limit, Low: low, High: low + uint64(chance.Intn(3))}
}

// anyLevels makes a version's levels.
func anyLevels(chance *rand.Rand) api.Levels {
	l := make(api.Levels, 1+chance.Intn(api.MaxLevels))
	numbers := chance.Perm(60)
	for level := range l {
		if chance.Intn(4) == 0 {
			continue
		}
		var bounds []string
		for range chance.Intn(9) {
			bounds = append(bounds, anyKey(chance))
		}
		slices.Sort(bounds)
		bounds = slices.Compact(bounds)
		for i := 0; i+1 < len(bounds); i += 1 + chance.Intn(2) {
			to := i + 1
			if level == 0 {
				to += chance.Intn(len(bounds) - to)
			}
			l[level] = append(l[level], anyFile(chance, 1+numbers[0], bounds[i], bounds[to]))
			numbers = numbers[1:]
		}
	}
	slices.SortFunc(l[0], func(a, b api.File) int { return a.Number - b.Number })
	return l
}

// anyEdit makes an edit of which many fit, but not all.
func anyEdit(chance *rand.Rand, l api.Levels) api.Edit {
	e := api.Edit{Log: chance.Int(), Next: -chance.Int(), Seq: chance.Uint64()}
	var numbers []int
	for _, x := range plainPlaces(l) {
		if chance.Intn(3) == 0 {
			e.Gone = append(e.Gone, gone(x.Level, x.File.Number))
			numbers = append(numbers, x.File.Number)
		}
	}
	if chance.Intn(8) == 0 {
		e.Gone = append(e.Gone, gone(chance.Intn(len(l)+2)-1, 1+chance.Intn(60)))
	}
	chance.Shuffle(len(e.Gone), func(i, j int) { e.Gone[i], e.Gone[j] = e.Gone[j], e.Gone[i] })
	for i := range chance.Intn(4) {
		least, limit := anyKey(chance), anyKey(chance)
		if least > limit {
			least, limit = limit, least
		}
		number := 100 - i
		if chance.Intn(2) == 0 && i < len(numbers) {
			number = numbers[i]
		}
		level := chance.Intn(len(l))
		if chance.Intn(16) == 0 {
			level = len(l)
		}
		e.Come = append(e.Come, come(level, anyFile(chance, number, least, limit+"\x00")))
	}
	return e
}
