package drop

import (
	"math"
	"math/rand"
	"slices"
	"testing"

	"moraine/api"
)

// P21.1: how many unlike ones of snaps are below a number.
func TestStripe(t *testing.T) {
	const most = math.MaxUint64
	for _, c := range []struct {
		snaps []uint64
		seq   uint64
		want  int
	}{
		{nil, 0, 0}, {nil, 1, 0}, {nil, most, 0}, {[]uint64{}, 7, 0},
		{[]uint64{5}, 0, 0}, {[]uint64{5}, 4, 0}, {[]uint64{5}, 5, 0}, {[]uint64{5}, 6, 1}, {[]uint64{5}, most, 1},
		{[]uint64{0}, 0, 0}, {[]uint64{0}, 1, 1}, {[]uint64{0}, most, 1},
		{[]uint64{most}, 0, 0}, {[]uint64{most}, most - 1, 0}, {[]uint64{most}, most, 0},
		{[]uint64{most - 1}, most, 1}, {[]uint64{api.MaxSeq}, api.MaxSeq, 0}, {[]uint64{api.MaxSeq}, api.MaxSeq + 1, 1},
		{[]uint64{9, 5, 9}, 5, 0}, {[]uint64{9, 5, 9}, 6, 1}, {[]uint64{9, 5, 9}, 9, 1}, {[]uint64{9, 5, 9}, 10, 2},
		{[]uint64{5, 5, 5}, 5, 0}, {[]uint64{5, 5, 5}, 6, 1},
		{[]uint64{3, 4, 5}, 3, 0}, {[]uint64{3, 4, 5}, 4, 1}, {[]uint64{3, 4, 5}, 5, 2}, {[]uint64{3, 4, 5}, 6, 3},
		{[]uint64{7, 0, most, 3, 0, 7}, 0, 0}, {[]uint64{7, 0, most, 3, 0, 7}, 1, 1}, {[]uint64{7, 0, most, 3, 0, 7}, 5, 2}, {[]uint64{7, 0, most, 3, 0, 7}, 8, 3}, {[]uint64{7, 0, most, 3, 0, 7}, most, 3},
	} {
		if got := Stripe(c.snaps, c.seq); got != c.want {
			t.Errorf("Stripe(%v, %d) = %d, want %d", c.snaps, c.seq, got, c.want)
		}
	}
}

// P21.1: any numbers, and the same stripe in whichever order snaps come.
func TestStripeOfAny(t *testing.T) {
	chance := rand.New(rand.NewSource(211))
	for range 3000 {
		snaps := make([]uint64, chance.Intn(7))
		for i := range snaps {
			snaps[i] = chanceNumber(chance)
		}
		seq := chanceNumber(chance)
		was := slices.Clone(snaps)
		want := plainStripe(snaps, seq)
		if got := Stripe(snaps, seq); got != want {
			t.Fatalf("Stripe(%v, %d) = %d, want %d", snaps, seq, got, want)
		}
		if !slices.Equal(snaps, was) {
			t.Fatalf("snaps were %v, are %v", was, snaps)
		}
		chance.Shuffle(len(snaps), func(i, j int) { snaps[i], snaps[j] = snaps[j], snaps[i] })
		if got := Stripe(append(snaps, snaps...), seq); got != want {
			t.Fatalf("Stripe(%v twice, %d) = %d, want %d", snaps, seq, got, want)
		}
	}
}

// chanceNumber is mostly small; some are as great as may be.
func chanceNumber(chance *rand.Rand) uint64 {
	n := uint64(chance.Intn(10))
	switch chance.Intn(4) {
	case 0:
		return math.MaxUint64 - n
	case 1:
		return 1<<63 - 5 + n
	}
	return n
}

// Words: numbers of one stripe are seen by the same ones of snaps.
func TestStripeIsWhoSees(t *testing.T) {
	snaps := []uint64{6, 2, 9, 2, 0}
	for a := range uint64(12) {
		for b := range uint64(12) {
			isAlike := !slices.ContainsFunc(snaps, func(s uint64) bool { return (a <= s) != (b <= s) })
			if got := Stripe(snaps, a) == Stripe(snaps, b); got != isAlike {
				t.Errorf("%d and %d: one stripe: %v, want %v", a, b, got, isAlike)
			}
		}
	}
}

// P21.1: files that bear on a key and such that do not.
func TestBears(t *testing.T) {
	for _, c := range []struct {
		below []api.File
		key   string
		want  bool
	}{
		{nil, "a", false}, {[]api.File{}, "", false},
		{[]api.File{file("b", "d")}, "a", false}, {[]api.File{file("b", "d")}, "a\xff", false}, {[]api.File{file("b", "d")}, "b", true},
		{[]api.File{file("b", "d")}, "b\x00", true}, {[]api.File{file("b", "d")}, "c", true}, {[]api.File{file("b", "d")}, "c\xff", true},
		{[]api.File{file("b", "d")}, "d", false}, {[]api.File{file("b", "d")}, "e", false}, {[]api.File{file("b", "d")}, "", false},
		{[]api.File{file("b", "b\x00")}, "b", true}, {[]api.File{file("b", "b\x00")}, "b\x00", false},
		{[]api.File{file("b", "b")}, "b", false}, {[]api.File{file("d", "b")}, "b", false}, {[]api.File{file("d", "b")}, "c", false}, {[]api.File{file("d", "b")}, "d", false},
		{[]api.File{file("", "")}, "", false}, {[]api.File{file("", "\x00")}, "", true}, {[]api.File{file("", "a")}, "a", false}, {[]api.File{file("a", "")}, "a", false}, {[]api.File{file("a", "")}, "b", false},
		{[]api.File{file("x", "z"), file("a", "c")}, "b", true}, {[]api.File{file("x", "z"), file("a", "c")}, "y", true}, {[]api.File{file("x", "z"), file("a", "c")}, "m", false},
		{[]api.File{file("a", "m"), file("c", "z")}, "d", true}, {[]api.File{file("a", "c"), file("c", "e")}, "c", true},
		{[]api.File{file("\xff", "\xff\xff")}, "\xff", true}, {[]api.File{file("\xff", "\xff\xff")}, "\x7f", false},
		// Of a file only the bounds are asked.
		{[]api.File{{Number: -1, Size: -5, Least: "a", Limit: "b", Low: 9, High: 1}}, "a", true},
	} {
		if got := Bears(c.below, c.key); got != c.want {
			t.Errorf("Bears(%v, %q) = %v, want %v", c.below, c.key, got, c.want)
		}
	}
}

// P21.1: any files, any key.
func TestBearsOnAny(t *testing.T) {
	chance := rand.New(rand.NewSource(212))
	for range 3000 {
		s, key := chanceScene(chance), chanceKey(chance)
		if got := Bears(s.rule.Below, key); got != plainBears(s.rule.Below, key) {
			t.Fatalf("Bears(%s, %q) = %v", brief(s.rule.Below), key, got)
		}
	}
}
