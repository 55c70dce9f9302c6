package bloom

import (
	"bytes"
	"math"
	"math/rand"
	"slices"
	"strconv"
	"testing"

	"moraine/api"
)

func made(t *testing.T, keys []string, bits int) []byte {
	t.Helper()
	b, e := Make(keys, bits)
	if e != api.OK {
		t.Fatalf("Make of %d keys with %d bits: %d", len(keys), bits, int(e))
	}
	return b
}

// numbered makes so many keys, all unlike.
func numbered(count int) []string {
	l := make([]string, count)
	for i := range l {
		l[i] = "key" + strconv.Itoa(i)
	}
	return l
}

var wrongBits = []int{math.MinInt, -65, -64, -1, 0, 65, 100, 1 << 32, 1<<32 + 1, math.MaxInt}

// P12.2: every count that may be, and those that may not.
func TestProbes(t *testing.T) {
	for bits, want := range map[int]int{1: 1, 2: 1, 3: 2, 10: 6, 42: 28, 43: 29, 44: 30, 45: 30, 63: 30, 64: 30} {
		if k, e := Probes(bits); k != want || e != api.OK {
			t.Errorf("Probes(%d): %d %d, want %d", bits, k, int(e), want)
		}
	}
	for bits := 1; bits <= 64; bits++ {
		if k, e := Probes(bits); k != plainProbes(bits) || e != api.OK {
			t.Errorf("Probes(%d): %d %d, want %d", bits, k, int(e), plainProbes(bits))
		}
	}
	for _, bits := range wrongBits {
		if k, e := Probes(bits); k != 0 || e != api.ErrArg {
			t.Errorf("Probes(%d): %d %d", bits, k, int(e))
		}
	}
}

// P12.3: bits that are refused, whatever the keys.
func TestMakeRefusesBits(t *testing.T) {
	for _, keys := range [][]string{nil, {}, {"k"}, numbered(100)} {
		for _, bits := range wrongBits {
			if b, e := Make(keys, bits); len(b) != 0 || e != api.ErrArg {
				t.Errorf("Make of %d keys with %d bits: % x %d", len(keys), bits, b, int(e))
			}
		}
	}
}

// P12.3: the bytes of small filters, bit by bit.
func TestMakeOfKnownKeys(t *testing.T) {
	for _, c := range []struct {
		keys []string
		bits int
		want []byte
	}{
		{nil, 10, []byte{0, 0, 0, 0, 0, 0, 0, 0, 6}},
		{[]string{}, 1, []byte{0, 0, 0, 0, 0, 0, 0, 0, 1}},
		{nil, 64, []byte{0, 0, 0, 0, 0, 0, 0, 0, 30}},
		{[]string{""}, 10, filterOf(8, 6, 52, 3, 18, 33, 48, 63)},
		{[]string{"k"}, 10, filterOf(8, 6, 60, 42, 24, 6, 52, 34)},
		{[]string{"k", "k"}, 10, filterOf(8, 6, 60, 42, 24, 6, 52, 34)},
		{[]string{"key", "k"}, 10, filterOf(8, 6, 60, 42, 24, 6, 52, 34, 38, 10, 46)},
		{slices.Repeat([]string{"k"}, 7), 10, filterOf(9, 6, 36, 26, 16, 46, 66)},
		{slices.Repeat([]string{"other"}, 20), 10, filterOf(25, 6, 167, 32, 193, 58, 123, 84)},
	} {
		if b := made(t, c.keys, c.bits); !bytes.Equal(b, c.want) {
			t.Errorf("Make(%q, %d): % x, want % x", c.keys, c.bits, b, c.want)
		}
	}
}

// P12.3: at least 64 bits, and whole bytes.
func TestMakeSizes(t *testing.T) {
	for _, c := range []struct{ count, bits, bytes int }{
		{0, 1, 8}, {0, 64, 8}, {1, 1, 8}, {1, 63, 8}, {1, 64, 8}, {2, 64, 16},
		{63, 1, 8}, {64, 1, 8}, {65, 1, 9}, {71, 1, 9}, {72, 1, 9}, {73, 1, 10},
		{31, 2, 8}, {32, 2, 8}, {33, 2, 9}, {6, 10, 8}, {7, 10, 9}, {8, 10, 10}, {9, 10, 12}, {200, 10, 250},
		{2, 33, 9}, {3, 63, 24},
	} {
		b := made(t, numbered(c.count), c.bits)
		if len(b) != c.bytes+1 || int(b[len(b)-1]) != plainProbes(c.bits) {
			t.Errorf("Make of %d keys with %d bits: %d bytes, the last %d", c.count, c.bits, len(b), b[len(b)-1])
		}
		if _, all, e := Full(b); all != 8*c.bytes || e != api.OK {
			t.Errorf("Full behind Make of %d keys with %d bits: %d %d", c.count, c.bits, all, int(e))
		}
	}
}

// P12.3: set are just the bits of the keys.
func TestMakeOfManyKeys(t *testing.T) {
	chance := rand.New(rand.NewSource(3))
	for bits := 1; bits <= 64; bits++ {
		for _, count := range []int{0, 1, 2, 64/bits + 1, chance.Intn(60)} {
			keys := randomKeys(chance, count)
			if b, want := made(t, keys, bits), plainMake(keys, bits); !bytes.Equal(b, want) {
				t.Errorf("Make(%q, %d): % x, want % x", keys, bits, b, want)
			}
		}
	}
}

// P12.4: bytes that are no filter have every key; Full refuses them.
func TestNoFilter(t *testing.T) {
	for _, b := range [][]byte{
		nil, {}, {0}, {1}, {6}, {30}, {31}, {255},
		{0, 0}, {255, 0}, {0, 31}, {0, 32}, {0, 128}, {0, 129}, {0, 255}, {1, 0},
		filterOf(8, 0), filterOf(8, 31), filterOf(8, 255), filterOf(1000, 31),
	} {
		for _, key := range []string{"", "k", "other", "\xff"} {
			if !May(b, key) {
				t.Errorf("May(% x, %q): false", b, key)
			}
		}
		if set, all, e := Full(b); set != 0 || all != 0 || e != api.ErrFilter {
			t.Errorf("Full(% x): %d %d %d", b, set, all, int(e))
		}
	}
}

// P12.4: how many bits are set, and how many there are.
func TestFull(t *testing.T) {
	for _, c := range []struct {
		b        []byte
		set, all int
	}{
		{[]byte{0, 1}, 0, 8}, {[]byte{0, 30}, 0, 8}, {[]byte{255, 30}, 8, 8}, {[]byte{0x80, 1}, 1, 8}, {[]byte{1, 1}, 1, 8},
		{[]byte{0xa5, 0x0f, 0x01, 7}, 9, 24},
		{[]byte{30, 30}, 4, 8},
		{filterOf(8, 6), 0, 64},
	} {
		if set, all, e := Full(c.b); set != c.set || all != c.all || e != api.OK {
			t.Errorf("Full(% x): %d %d %d, want %d %d", c.b, set, all, int(e), c.set, c.all)
		}
	}
	for bit := range 80 {
		if set, all, e := Full(filterOf(10, 2, bit)); set != 1 || all != 80 || e != api.OK {
			t.Errorf("Full with the bit %d: %d %d %d", bit, set, all, int(e))
		}
	}
	all255 := append(bytes.Repeat([]byte{255}, 300), 30)
	if set, all, e := Full(all255); set != 2400 || all != 2400 || e != api.OK {
		t.Errorf("Full with all bits: %d %d %d", set, all, int(e))
	}
}

// P12.4: all bits of a key must be set, and its bits alone are asked for.
func TestMayAsksForEachBit(t *testing.T) {
	for _, key := range []string{"", "k", "key", "\xff\x80", "other"} {
		for _, room := range []int{1, 2, 8, 9, 25} {
			for _, probes := range []int{1, 2, 6, 29, 30} {
				own := plainBits(key, 8*room, probes)
				if !May(filterOf(room, probes, own...), key) {
					t.Errorf("May with just the bits of %q in %d: false", key, 8*room)
				}
				full := append(bytes.Repeat([]byte{255}, room), byte(probes))
				if !May(full, key) {
					t.Errorf("May of %q with all bits: false", key)
				}
				for bit := range 8 * room {
					b := slices.Clone(full)
					b[bit/8] -= 1 << (bit % 8)
					if may := May(b, key); may == slices.Contains(own, bit) {
						t.Errorf("May of %q in %d without the bit %d: %v", key, 8*room, bit, may)
					}
				}
			}
		}
	}
}

// P12.4: filters of two bytes, all of them with some last bytes.
func TestSmallFilters(t *testing.T) {
	for first := range 256 {
		for _, last := range []byte{0, 1, 2, 29, 30, 31, 255} {
			b := []byte{byte(first), last}
			for _, key := range []string{"", "k", "other"} {
				if may, want := May(b, key), plainMay(b, key); may != want {
					t.Errorf("May(% x, %q): %v", b, key, may)
				}
			}
			if !plainIsFilter(b) {
				continue
			}
			set, all, e := Full(b)
			if wantSet, wantAll := plainFull(b); set != wantSet || all != wantAll || e != api.OK {
				t.Errorf("Full(% x): %d %d %d", b, set, all, int(e))
			}
		}
	}
}

// P12.4: any bytes, held against the plain words.
func TestAnyBytes(t *testing.T) {
	chance := rand.New(rand.NewSource(4))
	for range 3000 {
		b := []byte(randomText(chance, chance.Intn(20)))
		for i := range b {
			if chance.Intn(3) > 0 {
				b[i] |= byte(chance.Intn(256)) | byte(chance.Intn(256))
			}
		}
		if len(b) > 0 && chance.Intn(4) > 0 {
			b[len(b)-1] = byte(chance.Intn(6))
		}
		key := randomText(chance, chance.Intn(9))
		if may, want := May(b, key), plainMay(b, key); may != want {
			t.Errorf("May(% x, %q): %v", b, key, may)
		}
		set, all, e := Full(b)
		wantSet, wantAll, wantE := 0, 0, api.ErrFilter
		if plainIsFilter(b) {
			wantSet, wantAll = plainFull(b)
			wantE = api.OK
		}
		if set != wantSet || all != wantAll || e != wantE {
			t.Errorf("Full(% x): %d %d %d, want %d %d %d", b, set, all, int(e), wantSet, wantAll, int(wantE))
		}
	}
}

// P12.4: a filter of as many bits as a word of 32 bits can count, and eight more.
func TestMayOfGreatFilters(t *testing.T) {
	for _, room := range []int{1 << 29, 1<<29 + 1} {
		b := make([]byte, room+1)
		b[room] = 30
		if May(b, "k") {
			t.Errorf("May of %d bytes without a bit: true", room)
		}
		for _, bit := range plainBits("k", 8*room, 30) {
			b[bit/8] |= 1 << (bit % 8)
		}
		if !May(b, "k") || May(b, "other") {
			t.Errorf("May of %d bytes with the bits of a key", room)
		}
	}
}

// P12.5: every key is found, whatever other keys there are.
func TestNoKeyIsMissed(t *testing.T) {
	chance := rand.New(rand.NewSource(5))
	for _, bits := range []int{1, 2, 3, 10, 43, 44, 64} {
		for _, count := range []int{1, 2, 7, 100, 1000} {
			keys := append(randomKeys(chance, count), "", "k", ofByte(0xff, api.MaxKey))
			b := made(t, keys, bits)
			for _, key := range keys {
				if !May(b, key) {
					t.Errorf("%d bits, %d keys: %q is missed", bits, len(keys), key)
				}
			}
		}
	}
}

// P12.4: others are told apart, else a filter were of no use.
func TestOthersAreSeldomFound(t *testing.T) {
	b := made(t, numbered(1000), 10)
	found := 0
	for i := range 1000 {
		if May(b, "other"+strconv.Itoa(i)) {
			found++
		}
	}
	if found > 50 {
		t.Errorf("%d of 1000 others are found", found)
	}
}

// P12.6: other orders of the keys.
func TestOrderOfKeysDoesNotCount(t *testing.T) {
	chance := rand.New(rand.NewSource(6))
	for _, bits := range []int{1, 10, 64} {
		keys := randomKeys(chance, 30)
		want := made(t, keys, bits)
		for range 20 {
			chance.Shuffle(len(keys), func(i, j int) { keys[i], keys[j] = keys[j], keys[i] })
			if b := made(t, keys, bits); !bytes.Equal(b, want) {
				t.Errorf("%q with %d bits: % x, want % x", keys, bits, b, want)
			}
		}
	}
}

// P12.6: the filters of two lists have together just the bits of the filter of both.
func TestFilterOfBothHasTheBitsOfBoth(t *testing.T) {
	chance := rand.New(rand.NewSource(7))
	for _, bits := range []int{1, 3, 10, 64} {
		for _, count := range []int{1, 3, 20} {
			one, other := randomKeys(chance, count), randomKeys(chance, count)
			// Each list goes in twice, so that all three filters have as many bits.
			first := made(t, slices.Concat(one, one), bits)
			second := made(t, slices.Concat(other, other), bits)
			both := made(t, slices.Concat(one, other), bits)
			for i := range len(both) - 1 {
				if both[i] != first[i]|second[i] {
					t.Errorf("%d bits, %d keys: the byte %d is %02x, want %02x", bits, count, i, both[i], first[i]|second[i])
				}
			}
		}
	}
	small, smaller := made(t, []string{"k"}, 10), made(t, []string{"key", "other"}, 10)
	together := made(t, []string{"other", "k", "key"}, 10)
	for i := range 8 {
		if together[i] != small[i]|smaller[i] {
			t.Errorf("the byte %d is %02x", i, together[i])
		}
	}
}

// P12.6: with no key there is no key.
func TestNoKeyHasNone(t *testing.T) {
	chance := rand.New(rand.NewSource(8))
	for bits := 1; bits <= 64; bits++ {
		b := made(t, nil, bits)
		for _, key := range append(randomKeys(chance, 50), "", "k", "\x00", "\xff") {
			if May(b, key) {
				t.Errorf("%d bits: %q is found", bits, key)
			}
		}
	}
}

// Rule 4: what is handed in stays as it was, its spare room too.
func TestNothingHandedInIsChanged(t *testing.T) {
	room := append(numbered(5), "spare", "room")
	want := slices.Clone(room)
	b := made(t, room[:5], 10)
	if !slices.Equal(room, want) {
		t.Errorf("the keys are %q", room)
	}
	spare := append(slices.Clone(b), 77, 78)
	wantBytes := slices.Clone(spare)
	May(spare[:len(b)], "key1")
	May(spare[:len(b)], "other")
	Full(spare[:len(b)])
	May(spare[:1], "k")
	Full(spare[:1])
	if !bytes.Equal(spare, wantBytes) {
		t.Errorf("the filter is % x", spare)
	}
}

// Rule 8: what lies behind a filter's length is not read.
func TestSpareRoomIsNotRead(t *testing.T) {
	b := []byte{255, 6, 30}
	if May([]byte{0, 6}, "k") || !May(b[:2], "k") || !May(b[:1], "k") {
		t.Error("May")
	}
	if set, all, e := Full(b[:2]); set != 8 || all != 8 || e != api.OK {
		t.Errorf("Full: %d %d %d", set, all, int(e))
	}
	if _, _, e := Full(b[:1]); e != api.ErrFilter {
		t.Errorf("Full of one byte: %d", int(e))
	}
}

// Rule 4: what was told is new memory, and what was handed in is not kept.
func TestAnswersAreNewMemory(t *testing.T) {
	keys := numbered(9)
	want := plainMake(keys, 10)
	b := made(t, keys, 10)
	spoilt := b[:cap(b)]
	for i := range spoilt {
		spoilt[i] = 0xee
	}
	again := made(t, keys, 10)
	if !bytes.Equal(again, want) {
		t.Errorf("behind a change of what was told: % x, want % x", again, want)
	}
	for i := range keys {
		keys[i] = "changed"
	}
	if !bytes.Equal(again, want) || !May(again, "key3") {
		t.Errorf("behind a change of the keys: % x, want % x", again, want)
	}
}
