package bloom

import (
	"math/big"
	"math/rand"
	"slices"
	"strings"
)

// What the chapter says, word by word and without the package's own functions: the tests hold the package against it. Numbers are whole ones of any size, so that nothing runs over but where the chapter says so.

func whole(n uint64) *big.Int { return new(big.Int).SetUint64(n) }

func modulo(n *big.Int) *big.Int { return n.Mod(n, whole(1<<32)) }

// asNumber reads bytes, the lowest first.
func asNumber(s string) *big.Int {
	n := whole(0)
	for i := len(s) - 1; i >= 0; i-- {
		n.Mul(n, whole(256))
		n.Add(n, whole(uint64(s[i])))
	}
	return n
}

func plainHash(s string, seed uint32) uint32 {
	m := whole(0xc6a4a793)
	h := modulo(new(big.Int).Mul(whole(uint64(len(s))), m))
	h.Xor(h, whole(uint64(seed)))
	take := func(part string, shift uint) {
		h.Add(h, asNumber(part))
		modulo(h.Mul(h, m))
		h.Xor(h, new(big.Int).Rsh(h, shift))
	}
	for len(s) >= 4 {
		take(s[:4], 16)
		s = s[4:]
	}
	if s != "" {
		take(s, 24)
	}
	return uint32(h.Uint64())
}

func plainProbes(bits int) int {
	k := bits * 69 / 100
	if k < 1 {
		return 1
	}
	if k > 30 {
		return 30
	}
	return k
}

// plainBits tells the bits of a key in their turn; one may come twice.
func plainBits(key string, n, k int) []int {
	h := uint64(plainHash(key, 0xbc9f1d34))
	d := h>>17 + h%(1<<17)<<15
	var l []int
	for range k {
		l = append(l, int(h%uint64(n)))
		h = (h + d) % (1 << 32)
	}
	return l
}

// filterOf makes a filter of so many whole bytes with just these bits.
func filterOf(bytes, probes int, set ...int) []byte {
	b := make([]byte, bytes+1)
	for i := range 8 * bytes {
		if slices.Contains(set, i) {
			b[i/8] += 1 << (i % 8)
		}
	}
	b[bytes] = byte(probes)
	return b
}

func plainMake(keys []string, bits int) []byte {
	n := len(keys) * bits
	if n < 64 {
		n = 64
	}
	for n%8 != 0 {
		n++
	}
	var set []int
	for _, key := range keys {
		set = append(set, plainBits(key, n, plainProbes(bits))...)
	}
	return filterOf(n/8, plainProbes(bits), set...)
}

func plainIsFilter(b []byte) bool {
	return len(b) >= 2 && b[len(b)-1] >= 1 && b[len(b)-1] <= 30
}

func plainIsSet(b []byte, bit int) bool { return b[bit/8]/(1<<(bit%8))%2 == 1 }

func plainMay(b []byte, key string) bool {
	if !plainIsFilter(b) {
		return true
	}
	for _, bit := range plainBits(key, 8*(len(b)-1), int(b[len(b)-1])) {
		if !plainIsSet(b, bit) {
			return false
		}
	}
	return true
}

func plainFull(b []byte) (set, all int) {
	all = 8 * (len(b) - 1)
	for bit := range all {
		if plainIsSet(b, bit) {
			set++
		}
	}
	return set, all
}

func randomText(chance *rand.Rand, size int) string {
	b := make([]byte, size)
	chance.Read(b)
	return string(b)
}

func randomKeys(chance *rand.Rand, count int) []string {
	l := make([]string, count)
	for i := range l {
		l[i] = randomText(chance, chance.Intn(12))
	}
	return l
}

// ofByte makes a text of so many bytes of one kind.
func ofByte(c byte, size int) string { return strings.Repeat(string([]byte{c}), size) }
