package ikey

import (
	"math"
	"math/rand"
	"slices"
	"strconv"
	"testing"

	"moraine/api"
)

// marked makes entries of a few keys, numbers and kinds, so that many are alike; the values tell their places in the list.
func marked(chance *rand.Rand, size int) []api.Entry {
	texts := []string{"", "\x00", "a", "a\x00", "ab", "b", "\xff"}
	numbers := []uint64{0, 1, 2, api.MaxSeq, api.MaxSeq + 1, maxWord}
	all := []int{api.KindDelete, api.KindPut, api.KindRange, api.KindSeek, -1, 256, math.MinInt}
	l := make([]api.Entry, size)
	for i := range l {
		l[i] = api.Entry{Key: texts[chance.Intn(len(texts))], Seq: numbers[chance.Intn(len(numbers))], Kind: all[chance.Intn(len(all))], Value: strconv.Itoa(i)}
	}
	return l
}

func place(x api.Entry) int {
	n, _ := strconv.Atoi(x.Value)
	return n
}

func isAhead(a, b api.Entry) bool {
	order := plainCompare(api.IKey{Key: a.Key, Seq: a.Seq, Kind: a.Kind}, api.IKey{Key: b.Key, Seq: b.Seq, Kind: b.Kind})
	return order < 0 || order == 0 && place(a) < place(b)
}

// expectSorted: each stands ahead of the next one, and each place of the list comes once.
func expectSorted(t *testing.T, l, sorted []api.Entry) {
	t.Helper()
	if len(sorted) != len(l) {
		t.Fatalf("%d entries of %d", len(sorted), len(l))
	}
	for i, x := range sorted {
		if x != l[place(x)] {
			t.Fatalf("%v is none of the list", x)
		}
		if i > 0 && !isAhead(sorted[i-1], x) {
			t.Fatalf("%v stands ahead of %v", sorted[i-1], x)
		}
	}
}

func TestSorted(t *testing.T) {
	l := []api.Entry{
		{Key: "b", Seq: 1, Kind: api.KindPut, Value: "late"}, {Key: "a", Seq: 1, Kind: api.KindPut, Value: "x"}, {Key: "a", Seq: 4, Kind: api.KindDelete},
		{Key: "a", Seq: 1, Kind: api.KindRange, Value: "c"}, {Key: "a\x00", Seq: 9, Kind: api.KindPut}, {Key: "a", Seq: 1, Kind: api.KindPut, Value: "w"},
	}
	want := []api.Entry{l[2], l[3], l[1], l[5], l[4], l[0]}
	if got := Sorted(l); !slices.Equal(got, want) {
		t.Errorf("Sorted = %v, want %v", got, want)
	}
}

func TestSortedOfNone(t *testing.T) {
	for _, l := range [][]api.Entry{nil, {}, make([]api.Entry, 0, 3)} {
		if got := Sorted(l); len(got) != 0 {
			t.Errorf("Sorted of none = %v", got)
		}
	}
	one := []api.Entry{{Key: "a", Seq: 1, Kind: api.KindPut, Value: "0"}}
	expectSorted(t, one, Sorted(one))
}

// TestSortedOfAlikes: lists long enough that a sort that does not keep alikes in order shows it.
func TestSortedOfAlikes(t *testing.T) {
	chance := rand.New(rand.NewSource(2))
	for size := range 60 {
		l := marked(chance, size)
		expectSorted(t, l, Sorted(l))
	}
	l := marked(chance, 3000)
	expectSorted(t, l, Sorted(l))
	for i := range l {
		l[i].Key, l[i].Seq, l[i].Kind = "a", 1, api.KindPut
	}
	if !slices.Equal(Sorted(l), l) {
		t.Error("entries that are all alike changed places")
	}
}

// Rules 4 and 8.
func TestSortedSharesNothing(t *testing.T) {
	chance := rand.New(rand.NewSource(3))
	for _, size := range []int{0, 1, 5, 100} {
		room := marked(chance, size+4)
		kept := slices.Clone(room)
		got := Sorted(room[:size])
		expectSorted(t, kept[:size], got)
		got = got[:cap(got)]
		for i := range got {
			got[i] = api.Entry{Key: "other"}
		}
		_ = append(got[:0], api.Entry{Key: "other"})
		if !slices.Equal(room, kept) {
			t.Errorf("of %d: what was handed in has changed", size)
		}
		expectSorted(t, kept[:size], Sorted(room[:size]))
	}
}

func TestNewest(t *testing.T) {
	l := []api.Entry{
		{Key: "b", Seq: 1, Kind: api.KindPut}, {Key: "a", Seq: 1, Kind: api.KindPut, Value: "x"}, {Key: "a", Seq: 4, Kind: api.KindDelete},
		{Key: "a", Seq: 4, Kind: api.KindPut, Value: "first"}, {Key: "a", Seq: 4, Kind: api.KindPut, Value: "second"}, {Key: "ab", Seq: 3, Kind: api.KindPut},
		{Key: "a\x00", Seq: 2, Kind: api.KindPut}, {Key: "", Seq: 0, Kind: api.KindDelete, Value: "none"}, {Key: "c", Seq: maxWord, Kind: -1},
	}
	for _, x := range []struct {
		key  string
		seq  uint64
		want int // -1: none
	}{
		{"a", 0, -1}, {"a", 1, 1}, {"a", 3, 1}, {"a", 4, 3}, {"a", 5, 3}, {"a", api.MaxSeq, 3}, {"a", maxWord, 3},
		{"b", 0, -1}, {"b", 1, 0}, {"ab", 2, -1}, {"ab", 3, 5}, {"a\x00", 9, 6}, {"a\x00\x00", maxWord, -1}, {"d", maxWord, -1},
		{"", 0, 7}, {"c", api.MaxSeq, -1}, {"c", maxWord - 1, -1}, {"c", maxWord, 8},
	} {
		want, there := api.Entry{}, x.want >= 0
		if there {
			want = l[x.want]
		}
		if got, ok := Newest(l, x.key, x.seq); got != want || ok != there {
			t.Errorf("Newest(%q, %d) = %v, %v", x.key, x.seq, got, ok)
		}
	}
}

func TestNewestOfNone(t *testing.T) {
	for _, l := range [][]api.Entry{nil, {}, make([]api.Entry, 3)[:0], {{Key: "b", Seq: 1, Kind: 1, Value: "v"}}, {{Key: "a", Seq: 6, Kind: 1, Value: "v"}}} {
		if got, ok := Newest(l, "a", 5); ok || got != (api.Entry{}) {
			t.Errorf("Newest of %v = %v, %v", l, got, ok)
		}
	}
	room := []api.Entry{{Key: "b", Seq: 1, Kind: 1}, {Key: "a", Seq: 1, Kind: 1}}
	if got, ok := Newest(room[:1], "a", 5); ok {
		t.Errorf("an entry behind the length was told: %v", got)
	}
}

// TestNewestIsTheFirstOfSorted: in whatever order the list stands, which it does not change.
func TestNewestIsTheFirstOfSorted(t *testing.T) {
	chance := rand.New(rand.NewSource(4))
	for range 2000 {
		l := marked(chance, chance.Intn(40))
		kept := slices.Clone(l)
		key, seq := "a", []uint64{0, 1, 2, api.MaxSeq, maxWord}[chance.Intn(5)]
		isSeen := func(x api.Entry) bool { return x.Key == key && x.Seq <= seq }
		sorted := Sorted(l)
		want, there := api.Entry{}, false
		if at := slices.IndexFunc(sorted, isSeen); at >= 0 {
			want, there = sorted[at], true
		}
		if got, ok := Newest(l, key, seq); got != want || ok != there {
			t.Fatalf("Newest(%v, %q, %d) = %v, %v; want %v, %v", l, key, seq, got, ok, want, there)
		}
		if !slices.Equal(l, kept) {
			t.Fatal("the list has changed")
		}
	}
}
