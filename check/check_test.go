package check

import (
	"bytes"
	"math"
	"math/rand"
	"testing"

	"moraine/api"
)

// sums are edges of a word and some between them.
func sums() []uint32 {
	l := []uint32{0, 1, 7, 0x8000, 0x7fffffff, 0x80000000, 0xe3069283, maskPlus, maskPlus - 1, math.MaxUint32}
	for i := range 32 {
		l = append(l, 1<<i)
	}
	chance := rand.New(rand.NewSource(2))
	for range 200 {
		l = append(l, chance.Uint32())
	}
	return l
}

// lists have every length up to some, and bytes of all kinds.
func lists() [][]byte {
	l := [][]byte{nil, {}, make([]byte, 32), bytes.Repeat([]byte{0xff}, 32), []byte("123456789")}
	chance := rand.New(rand.NewSource(3))
	for n := range 70 {
		l = append(l, randomBytes(chance, n))
	}
	return append(l, randomBytes(chance, 4096), randomBytes(chance, 65537))
}

func randomBytes(chance *rand.Rand, n int) []byte {
	b := make([]byte, n)
	chance.Read(b)
	return b
}

// takeBit and takeBytes are the document's own words, bit by bit.
func takeBit(register uint32, bit uint32) uint32 {
	x := register&1 ^ bit
	register >>= 1
	if x == 1 {
		register ^= 0x82f63b78
	}
	return register
}

func takeBytes(register uint32, b []byte) uint32 {
	for _, c := range b {
		for i := range 8 {
			register = takeBit(register, uint32(c>>i&1))
		}
	}
	return register
}

func joined(parts ...[]byte) []byte {
	return bytes.Join(parts, nil)
}

func TestSum(t *testing.T) {
	for _, x := range []struct {
		b    []byte
		want uint32
	}{
		{nil, 0}, {[]byte{}, 0}, {[]byte("123456789"), 0xe3069283},
		{make([]byte, 32), 0x8a9136aa}, {bytes.Repeat([]byte{0xff}, 32), 0x62a8ab43},
	} {
		if got := Sum(x.b); got != x.want {
			t.Errorf("Sum(%q) = %08x, want %08x", x.b, got, x.want)
		}
	}
	for _, b := range lists() {
		if got, want := Sum(b), ^takeBytes(math.MaxUint32, b); got != want {
			t.Errorf("Sum of %d bytes = %08x, want %08x", len(b), got, want)
		}
	}
}

func TestSumOfEveryByte(t *testing.T) {
	for c := range 256 {
		b := []byte{byte(c)}
		if got, want := Sum(b), ^takeBytes(math.MaxUint32, b); got != want {
			t.Errorf("Sum of the byte %d = %08x, want %08x", c, got, want)
		}
	}
}

func TestExtend(t *testing.T) {
	if got := Extend(0xe3069283, nil); got != 0xe3069283 {
		t.Errorf("Extend by nothing = %08x", got)
	}
	list := lists()
	for i, sum := range sums() {
		b := list[i%len(list)]
		if got, want := Extend(sum, b), ^takeBytes(^sum, b); got != want {
			t.Errorf("Extend(%08x, %d bytes) = %08x, want %08x", sum, len(b), got, want)
		}
	}
	for _, b := range list {
		cut := len(b) / 3
		if got, want := Extend(Sum(b[:cut]), b[cut:]), Sum(b); got != want {
			t.Errorf("extended to %d bytes = %08x, want %08x", len(b), got, want)
		}
	}
}

func TestSumsReadNoSpareRoomAndChangeNothing(t *testing.T) {
	all := []byte("123456789 and more")
	r := New()
	if e := r.Add(all[:9]); e != api.OK {
		t.Errorf("Add: error %d", e)
	}
	if a, b := Sum(all[:9]), Extend(0, all[:9]); a != 0xe3069283 || b != a || r.Sum() != a {
		t.Errorf("Sum = %08x, Extend = %08x, Running = %08x", a, b, r.Sum())
	}
	if string(all) != "123456789 and more" {
		t.Errorf("changed to %q", all)
	}
	all[0] = 'x'
	if r.Sum() != 0xe3069283 {
		t.Error("a Running hangs on what was handed in")
	}
}

func TestZeros(t *testing.T) {
	if got, e := Zeros(0, 32); got != 0x8a9136aa || e != api.OK {
		t.Errorf("Zeros(0, 32) = %08x, %d", got, e)
	}
	for _, sum := range sums() {
		for _, n := range []int{0, 1, 2, 3, 4, 5, 7, 8, 15, 16, 31, 32, 33, 100, 255, 256, 1000} {
			if got, e := Zeros(sum, n); got != Extend(sum, make([]byte, n)) || e != api.OK {
				t.Errorf("Zeros(%08x, %d) = %08x, %d", sum, n, got, e)
			}
		}
	}
	if got, e := Zeros(5, 1<<20+3); got != Extend(5, make([]byte, 1<<20+3)) || e != api.OK {
		t.Errorf("Zeros of 2^20 + 3 = %08x, %d", got, e)
	}
}

// period is how many bits 0 bring every register back to where it was: the polynomial is the product of x + 1 and of one of degree 31, whose roots have that order. It is a prime, so that as many bytes do it too.
const period = 1<<31 - 1

// greatCounts have beside a count of noughts a small one that makes the same of a register.
var greatCounts = []struct{ n, small int }{
	{math.MaxInt, 1}, // 2^63 - 1 is 2 - 1 modulo the period
	{math.MaxInt - 1, 0},
	{period, 0}, {period + 1, 1}, {5*period + 9, 9}, {1 << 31, 1}, {1 << 32, 2}, {1 << 62, 1}, {1<<62 + 1<<31 + 3, 5},
}

func TestZerosOfGreatCounts(t *testing.T) {
	for _, sum := range sums() {
		for _, x := range greatCounts {
			if got, e := Zeros(sum, x.n); got != Extend(sum, make([]byte, x.small)) || e != api.OK {
				t.Errorf("Zeros(%08x, %d) = %08x, %d; want that of %d", sum, x.n, got, e, x.small)
			}
		}
	}
}

func TestZerosAndCombineOfCountsBelowNought(t *testing.T) {
	for _, n := range []int{-1, -2, -32, -1 << 31, math.MinInt + 1, math.MinInt} {
		for _, sum := range []uint32{0, 7, math.MaxUint32} {
			if got, e := Zeros(sum, n); got != 0 || e != api.ErrArg {
				t.Errorf("Zeros(%d, %d) = %08x, %d", sum, n, got, e)
			}
			if got, e := Combine(sum, ^sum, n); got != 0 || e != api.ErrArg {
				t.Errorf("Combine(%d, %d, %d) = %08x, %d", sum, ^sum, n, got, e)
			}
		}
	}
}

func TestCombine(t *testing.T) {
	list := sums()
	for i, a := range list {
		b := list[len(list)-1-i]
		if got, e := Combine(a, 0, 0); got != a || e != api.OK {
			t.Errorf("Combine(%08x, 0, 0) = %08x, %d", a, got, e)
		}
		for _, n := range []int{0, 1, 2, 3, 4, 8, 31, 64, 100, 257} {
			want := takeBytes(a, make([]byte, n)) ^ b
			if got, e := Combine(a, b, n); got != want || e != api.OK {
				t.Errorf("Combine(%08x, %08x, %d) = %08x, %d; want %08x", a, b, n, got, e, want)
			}
		}
		for _, x := range greatCounts {
			want := takeBytes(a, make([]byte, x.small)) ^ b
			if got, e := Combine(a, b, x.n); got != want || e != api.OK {
				t.Errorf("Combine(%08x, %08x, %d) = %08x, %d; want %08x", a, b, x.n, got, e, want)
			}
		}
	}
}

func TestMasks(t *testing.T) {
	for _, x := range []struct{ sum, masked uint32 }{
		{0, 0xa282ead8}, {0x8000, 0xa282ead9}, {1, 0xa284ead8}, {0x7fff, 0xa280ead8}, {math.MaxUint32, 0xa282ead7},
	} {
		if got := Mask(x.sum); got != x.masked {
			t.Errorf("Mask(%08x) = %08x, want %08x", x.sum, got, x.masked)
		}
		if got := Unmask(x.masked); got != x.sum {
			t.Errorf("Unmask(%08x) = %08x, want %08x", x.masked, got, x.sum)
		}
	}
	for _, x := range sums() {
		if got, want := Mask(x), (x>>15|x<<17)+0xa282ead8; got != want {
			t.Errorf("Mask(%08x) = %08x, want %08x", x, got, want)
		}
	}
}

// P2.10, its first half.
func TestMasksGoThereAndBack(t *testing.T) {
	for _, x := range sums() {
		if got := Unmask(Mask(x)); got != x {
			t.Errorf("Unmask(Mask(%08x)) = %08x", x, got)
		}
		if got := Mask(Unmask(x)); got != x {
			t.Errorf("Mask(Unmask(%08x)) = %08x", x, got)
		}
	}
}

// P2.5, and P2.10's other half: any sum comes to any other one.
func TestPatch(t *testing.T) {
	if got := Patch(0, math.MaxUint32); string(got) != "\xff\xff\xff\xff" {
		t.Errorf("Patch(0, ffffffff) = % x", got)
	}
	list := sums()
	for i, sum := range list {
		for _, want := range []uint32{0, sum, ^sum, list[len(list)-1-i], math.MaxUint32} {
			p := Patch(sum, want)
			if len(p) != 4 || Extend(sum, p) != want {
				t.Errorf("Patch(%08x, %08x) = % x, which makes %08x", sum, want, p, Extend(sum, p))
			}
		}
	}
	chance := rand.New(rand.NewSource(4))
	for range 500 {
		sum, p := chance.Uint32(), randomBytes(chance, 4)
		if got := Patch(sum, Extend(sum, p)); !bytes.Equal(got, p) {
			t.Errorf("Patch tells % x, where % x is the only one", got, p)
		}
	}
}

func TestPatchAnswersNewMemory(t *testing.T) {
	a, b := Patch(5, 77), Patch(5, 77)
	for i := range a {
		a[i]++
	}
	a = append(a, 9)
	if Extend(5, b) != 77 || Extend(5, Patch(5, 77)) != 77 {
		t.Error("two answers share memory")
	}
}

// P2.8: every unlikeness of up to 32 bits, at every place of a short list, is told.
func TestBurstsChangeTheSum(t *testing.T) {
	chance := rand.New(rand.NewSource(5))
	for range 4000 {
		b := randomBytes(chance, 4+chance.Intn(40))
		width := 1 + chance.Intn(32)
		burst := uint64(chance.Uint32())>>(32-width) | 1
		at := chance.Intn(8*len(b) - width + 1)
		other := bytes.Clone(b)
		for i := range width {
			if burst>>i&1 == 1 {
				other[(at+i)/8] ^= 1 << ((at + i) % 8)
			}
		}
		if Sum(b) == Sum(other) {
			t.Fatalf("% x and % x have one sum", b, other)
		}
	}
}

func TestOneBitChangesTheSum(t *testing.T) {
	b := []byte("a list of bytes, every bit of which is turned about once")
	sum := Sum(b)
	for i := range 8 * len(b) {
		b[i/8] ^= 1 << (i % 8)
		if Sum(b) == sum {
			t.Errorf("the bit %d does not show", i)
		}
		b[i/8] ^= 1 << (i % 8)
	}
}

// P2.9.
func TestSumsAreLinear(t *testing.T) {
	chance := rand.New(rand.NewSource(6))
	for n := range 100 {
		a, b, c := randomBytes(chance, n), randomBytes(chance, n), randomBytes(chance, n)
		all := make([]byte, n)
		for i := range all {
			all[i] = a[i] ^ b[i] ^ c[i]
		}
		if got, want := Sum(a)^Sum(b)^Sum(c), Sum(all); got != want {
			t.Errorf("of %d bytes: %08x, want %08x", n, got, want)
		}
	}
}
