package block

import (
	"math"
	"math/rand"
	"slices"
	"strings"
	"testing"

	"moraine/api"
)

// first are the entries of the chapter's first example, firstBytes its block.
func first() []entry {
	return []entry{{put("ab", 3), "x"}, {put("abc", 2), ""}}
}

const firstBytes = "00 0a 01 61 62 01 03 00 00 00 00 00 00 78" + "02 09 00 63 01 02 00 00 00 00 00 00" + "00 00 00 00" + "01 00 00 00"

// rising are entries of several kinds: keys that share nothing, some and all of the one ahead, and alike but for the number or the kind.
func rising() []entry {
	whole := plainKeyBytes(put("b", 770))
	return []entry{
		{put("a", 1), "one"},
		{put("aa", 9), ""},
		{at("aa", 8, api.KindSeek), "seek"},
		{at("aa", 8, api.KindRange), "range"},
		{put("aa", 8), of(200)},
		{at("aa", 8, api.KindDelete), ""},
		{put("aa", 0), "nought"},
		{put("b", 770), "v"},
		{put(whole, 5), "all of the one ahead"},
		{put(whole+"\x00", api.MaxSeq), ""},
		{put(strings.Repeat("\xff", 1024), 1<<56-1), "longest"},
		{put(strings.Repeat("\xff", 1024), 3), of(65536)},
	}
}

// P11.1, example 1
func TestBytes(t *testing.T) {
	want := bytesOf(t, firstBytes)
	b := builder(t, 2, first())
	if got := b.Bytes(); string(got) != string(want) || b.Size() != len(want) || b.Len() != 2 {
		t.Errorf("Bytes %x, Size %d, Len %d", got, b.Size(), b.Len())
	}
	if got := plainBytes(first(), 2); string(got) != string(want) {
		t.Errorf("plain: %x", got)
	}
	opens(t, "the first example", want, first())
}

// P11.1, example 2
func TestBytesOfNothing(t *testing.T) {
	for _, restart := range []int{1, 2, 63, 64} {
		b := builder(t, restart, nil)
		if got := b.Bytes(); string(got) != "\x00\x00\x00\x00" || b.Size() != 4 || b.Len() != 0 {
			t.Errorf("Bytes %x, Size %d, Len %d", got, b.Size(), b.Len())
		}
	}
}

// P11.1
func TestNewBuilderArg(t *testing.T) {
	for _, restart := range []int{0, -1, 65, 66, 128, math.MinInt, math.MaxInt} {
		if b, e := NewBuilder(restart); b != nil || e != api.ErrArg {
			t.Errorf("NewBuilder(%d): error %d", restart, int(e))
		}
	}
}

// P11.1: each entry is refused or stands there, with each restart.
func TestBytesAtEachEntry(t *testing.T) {
	l := rising()
	for restart := 1; restart <= 64; restart++ {
		b := builder(t, restart, nil)
		for i, x := range l {
			isBuilt(t, b, restart, l[:i])
			add(t, b, x.key, x.value, api.OK)
		}
		isBuilt(t, b, restart, l)
		opens(t, "built", b.Bytes(), l)
	}
}

// P11.1: just as many entries as restart says lie from one restart to the next.
func TestRestarts(t *testing.T) {
	for _, restart := range []int{1, 2, 3, 63, 64} {
		var l []entry
		for i := range 2*restart + 2 {
			l = append(l, entry{put("key", uint64(1000-i)), "v"})
		}
		for _, n := range []int{1, restart, restart + 1, 2 * restart, 2*restart + 1} {
			b := builder(t, restart, l[:n])
			isBuilt(t, b, restart, l[:n])
			places := (n + restart - 1) / restart
			got := b.Bytes()
			if int(got[len(got)-4]) != places || got[len(got)-3] != 0 {
				t.Errorf("%d entries, restart %d: %x, want %d restarts", n, restart, got[len(got)-4:], places)
			}
			opens(t, "restarts", got, l[:n])
		}
	}
}

// P11.1: what of a key is shared: its encoded bytes, the number and kind too.
func TestShares(t *testing.T) {
	for _, x := range []struct {
		ahead, key api.IKey
		shared     int
	}{
		{put("a", 1), put("b", 1), 0},
		{put("ab", 1), put("ac", 1), 1},
		{put("ab", 2), put("ab", 1), 3},
		{put("ab", 256), put("ab", 255), 3},
		{put("ab", 512), put("ab", 256), 4},
		{at("ab", 7, api.KindPut), at("ab", 7, api.KindDelete), 2},
		{put("a", 1<<48), put("a", 0), 8},
		{put("a", 770), put("a\x01\x02\x03\x00\x00\x00\x00\x00", 9), 9},
		{put("a", 770), put("a\x01\x02\x03\x00\x00\x00\x00", 9), 8},
		{put("ab", 97), put("b", 98), 0},
	} {
		b := builder(t, 2, []entry{{x.ahead, "v"}, {x.key, "w"}})
		place := 3 + len(x.ahead.Key) + 8 + 1
		if got := b.Bytes(); int(got[place]) != x.shared || int(got[place+1]) != len(x.key.Key)+8-x.shared {
			t.Errorf("%v behind %v shares %d and has %d, want %d", x.key, x.ahead, got[place], got[place+1], x.shared)
		}
	}
}

// P11.1: keys and values that may not be, ahead of any entry and behind one.
func TestAddArg(t *testing.T) {
	for _, l := range [][]entry{nil, first()} {
		b := builder(t, 2, l)
		for _, k := range []api.IKey{
			{}, put("", 1), put(of(1025), 1), put(of(5000), 1), put("z", 1<<56), put("z", maxWord),
			at("z", 1, -1), at("z", 1, 3), at("z", 1, 254), at("z", 1, 256), at("z", 1, math.MinInt), at("z", 1, math.MaxInt),
		} {
			add(t, b, k, "v", api.ErrArg)
			add(t, b, k, of(65537), api.ErrArg)
		}
		add(t, b, put("z", 1), of(65537), api.ErrArg)
		add(t, b, put("z", 1), of(100000), api.ErrArg)
		isBuilt(t, b, 2, l)
		more := []entry{{put(of(1024), 1<<56-1), of(65536)}, {at("z", 0, 255), ""}}
		for _, x := range more {
			add(t, b, x.key, x.value, api.OK)
		}
		isBuilt(t, b, 2, append(slices.Clone(l), more...))
	}
}

// P11.1: what is not behind the last one, by key, number and kind; ErrArg comes ahead of ErrOrder.
func TestAddOrder(t *testing.T) {
	for _, restart := range []int{1, 2, 3} {
		l := []entry{{put("b", 9), "v"}, {put("m", 5), "w"}}
		b := builder(t, restart, l)
		for _, k := range []api.IKey{
			put("m", 5), at("m", 5, api.KindRange), at("m", 5, api.KindSeek), put("m", 6), at("m", 6, api.KindDelete), put("m", api.MaxSeq),
			put("l", 1), put("b", 9), put("b", 8), put("a", 1), put("\x00", 1), put("lz", 5),
		} {
			add(t, b, k, "again", api.ErrOrder)
			add(t, b, k, of(65537), api.ErrArg)
		}
		for _, k := range []api.IKey{put("", 5), at("m", 5, 7), at("a", 5, 7), put("a", 1<<56)} {
			add(t, b, k, "", api.ErrArg)
		}
		isBuilt(t, b, restart, l)
		for _, x := range []entry{{at("m", 5, api.KindDelete), ""}, {put("m", 4), "older"}, {put("m\x00", 9), "next"}} {
			add(t, b, x.key, x.value, api.OK)
			l = append(l, x)
			add(t, b, x.key, x.value, api.ErrOrder)
			isBuilt(t, b, restart, l)
		}
	}
}

// P11.1, rule 4: more may be added behind Bytes, which was told in memory of its own.
func TestBytesIsNew(t *testing.T) {
	l := rising()
	b := builder(t, 3, l[:4])
	for n := 4; n <= len(l); n++ {
		one, two := b.Bytes(), b.Bytes()
		spare := append(one, "behind"...)
		for i := range spare {
			spare[i] = 0xee
		}
		for i := range one {
			one[i] = 0xee
		}
		if string(two) != string(plainBytes(l[:n], 3)) {
			t.Errorf("Bytes of %d entries changed with what was told ahead of it", n)
		}
		isBuilt(t, b, 3, l[:n])
		if n < len(l) {
			add(t, b, l[n].key, l[n].value, api.OK)
			if string(two) != string(plainBytes(l[:n], 3)) {
				t.Errorf("Bytes of %d entries changed with what was added behind it", n)
			}
		}
	}
}

// Rule 4: two builders have nothing in common.
func TestBuildersApart(t *testing.T) {
	l := rising()
	one, two := builder(t, 2, l[:5]), builder(t, 2, l[:2])
	add(t, two, l[2].key, l[2].value, api.OK)
	add(t, one, l[5].key, l[5].value, api.OK)
	isBuilt(t, one, 2, l[:6])
	isBuilt(t, two, 2, l[:3])
}

// Rule 1
func TestNoBuilder(t *testing.T) {
	var none *Builder
	for _, b := range []*Builder{none, {}} {
		for range 2 {
			add(t, b, put("a", 1), "v", api.ErrNil)
			add(t, b, api.IKey{}, of(65537), api.ErrNil)
			if b.Len() != 0 || b.Size() != 0 || len(b.Bytes()) != 0 {
				t.Errorf("Len %d, Size %d, Bytes %x", b.Len(), b.Size(), b.Bytes())
			}
		}
	}
}

// chanceKey makes a key of few bytes and a few numbers, so that much is shared.
func chanceKey(chance *rand.Rand) api.IKey {
	b := make([]byte, 1+chance.Intn(6))
	for i := range b {
		b[i] = "\x00\x01ab\xff"[chance.Intn(5)]
	}
	kinds := []int{0, 1, 2, 255}
	return at(string(b), uint64(chance.Intn(4))<<(8*chance.Intn(7)), kinds[chance.Intn(4)])
}

// chanceEntries makes entries in their order.
func chanceEntries(chance *rand.Rand, most int) []entry {
	var l []entry
	for range chance.Intn(most + 1) {
		l = append(l, entry{chanceKey(chance), of(chance.Intn(4))})
	}
	slices.SortStableFunc(l, func(a, b entry) int {
		if plainBelow(a.key, b.key) {
			return -1
		}
		return 1
	})
	return slices.CompactFunc(l, func(a, b entry) bool { return a.key == b.key })
}

// P11.1, P11.4: entries that come in any order, held against the plain ones.
func TestChanceBuilt(t *testing.T) {
	chance := rand.New(rand.NewSource(11))
	for range 600 {
		restart := 1 + chance.Intn(6)
		b := builder(t, restart, nil)
		var l []entry
		for range 30 {
			x := entry{chanceKey(chance), of(chance.Intn(4))}
			want := api.OK
			if len(l) > 0 && !plainBelow(l[len(l)-1].key, x.key) {
				want = api.ErrOrder
			} else {
				l = append(l, x)
			}
			add(t, b, x.key, x.value, want)
		}
		isBuilt(t, b, restart, l)
		opens(t, "built", b.Bytes(), l)
	}
	for range 300 {
		l := chanceEntries(chance, 60)
		for _, restart := range []int{1, 2, 3, 16, 64} {
			b := builder(t, restart, l)
			isBuilt(t, b, restart, l)
			opens(t, "built", b.Bytes(), l)
		}
	}
}

// P11.4: what every restart's place leads to is a key that is written whole.
func TestRestartsAreWhole(t *testing.T) {
	chance := rand.New(rand.NewSource(4))
	for range 200 {
		restart := 1 + chance.Intn(5)
		l := chanceEntries(chance, 40)
		b := builder(t, restart, l).Bytes()
		count := int(b[len(b)-4])
		for i := range count {
			place := int(b[len(b)-4-4*(count-i)]) + 256*int(b[len(b)-4-4*(count-i)+1])
			key := plainKeyBytes(l[i*restart].key)
			if b[place] != 0 || int(b[place+1]) != len(key) || string(b[place+3:place+3+len(key)]) != key {
				t.Errorf("restart %d of %d: no whole key %x at %d", i, count, key, place)
			}
		}
	}
}
