package bloom

import (
	"math"
	"math/rand"
	"slices"
	"testing"
)

// P12.1: values worked out by another program.
func TestHashOfKnownTexts(t *testing.T) {
	const most = math.MaxUint32
	for _, c := range []struct {
		s    string
		seed uint32
		want uint32
	}{
		{"", 0xbc9f1d34, 0xbc9f1d34},
		{"b", 0xbc9f1d34, 0xef1345c4},
		{"\xc3\x97", 0xbc9f1d34, 0x5b663814},
		{"\xe2\x99\xa5", 0xbc9f1d34, 0x323c078f},
		{"\xe1\x80\xb9\x32", 0xbc9f1d34, 0xed21633a},
		{"", 0, 0}, {"", most, most},
		{"a", 0, 0xca6c9dd6}, {"a", most, 0xf7b5b840},
		{"ab", 0, 0x589c01dd}, {"ab", most, 0x79d2e037},
		{"abc", 0, 0xac7e1f42}, {"abc", most, 0xc1a2c124},
		{"abcd", 0, 0x9e87a0d0}, {"abcd", most, 0xa79904e5},
		{"abcde", 0, 0x8fa76260}, {"abcde", most, 0xb642098e},
		{"abcdef", 0, 0xbc97e7b3}, {"abcdef", most, 0xfdcd6a2b},
		{"abcdefg", 0, 0xf265257d}, {"abcdefg", most, 0xa29f538e},
		{"abcdefgh", 0, 0x472cd8c3}, {"abcdefgh", most, 0xd2fdedab},
		{"abcdefghi", 0, 0x6ebfd2b6}, {"abcdefghi", most, 0x0800e39b},
		{"\xff", 0, 0x640c09b2}, {"\xff\xff", 0, 0xed0095d2}, {"\xff\xff\xff", 0, 0x5e76b3f6},
		{"\xff\xff\xff\xff", most, 0x5a926da4}, {"\xff\xff\xff\xff\xff\xff\xff\xff\xff", most, 0x3bda8478},
	} {
		if h := Hash(c.s, c.seed); h != c.want {
			t.Errorf("Hash(%q, %08x): %08x, want %08x", c.s, c.seed, h, c.want)
		}
	}
}

func seeds() []uint32 {
	l := []uint32{0, 1, keySeed, 0x7fffffff, 0x80000000, math.MaxUint32}
	chance := rand.New(rand.NewSource(1))
	for range 10 {
		l = append(l, chance.Uint32())
	}
	return l
}

func holdHash(t *testing.T, s string) {
	t.Helper()
	for _, seed := range seeds() {
		if h, want := Hash(s, seed), plainHash(s, seed); h != want {
			t.Errorf("Hash(%q, %08x): %08x, want %08x", s, seed, h, want)
		}
	}
}

// P12.1: every length has its own place, and no byte is taken for one below 0.
func TestHashOfBytesInEveryPlace(t *testing.T) {
	for size := range 22 {
		for _, other := range []byte{0, 0x7f, 0x80, 0xff} {
			plain := ofByte(other, size)
			holdHash(t, plain)
			for place := range size {
				for _, c := range []byte{0, 1, 0x7f, 0x80, 0x81, 0xff} {
					b := []byte(plain)
					b[place] = c
					holdHash(t, string(b))
				}
			}
		}
	}
}

// P12.1: sums and products run over on the way.
func TestHashOfManyTexts(t *testing.T) {
	chance := rand.New(rand.NewSource(2))
	for range 400 {
		holdHash(t, randomText(chance, chance.Intn(40)))
	}
	for _, size := range []int{1023, 1024, 1025, 65535, 65536} {
		holdHash(t, randomText(chance, size))
	}
}

func gathered(key string, all, probes int) []int {
	var l []int
	for bit := range bitsOf(key, all, probes) {
		l = append(l, bit)
	}
	return l
}

// P12.3: the bits of a key in their turn; with a count that does not divide 2^32 it shows whether h + d was taken modulo 2^32.
func TestBitsOfKnownKeys(t *testing.T) {
	for _, c := range []struct {
		key         string
		all, probes int
		want        []int
	}{
		{"", 64, 6, []int{52, 3, 18, 33, 48, 63}},
		{"", 72, 6, []int{20, 35, 18, 33, 16, 31}},
		{"k", 8, 1, []int{4}},
		{"k", 72, 6, []int{36, 26, 16, 46, 36, 66}},
		{"k", 200, 10, []int{84, 10, 136, 158, 84, 106, 32, 54, 180, 106}},
		{"key", 200, 10, []int{60, 30, 0, 74, 44, 14, 184, 154, 124, 94}},
		{"\xff", 72, 6, []int{8, 39, 70, 29, 60, 19}},
		{"other", 200, 10, []int{167, 32, 193, 58, 123, 84, 149, 14, 175, 40}},
	} {
		if l := gathered(c.key, c.all, c.probes); !slices.Equal(l, c.want) {
			t.Errorf("bits of %q in %d with %d: %v, want %v", c.key, c.all, c.probes, l, c.want)
		}
	}
}

// P12.3: the same for more bits than a word of 32 bits can count.
func TestBitsOfKeysInGreatFilters(t *testing.T) {
	for _, all := range []int{8, 16, 1 << 31, 1<<32 - 8, 1 << 32, 1<<32 + 8, 1 << 33, 8 * (1<<31 - 2)} {
		for _, key := range []string{"", "k", "key", "other", "\x80\xff"} {
			for _, probes := range []int{1, 2, 29, 30} {
				if l, want := gathered(key, all, probes), plainBits(key, all, probes); !slices.Equal(l, want) {
					t.Errorf("bits of %q in %d with %d: %v, want %v", key, all, probes, l, want)
				}
			}
		}
	}
}
