package codec

import (
	"encoding/binary"
	"math"
	"math/rand"
	"strings"
	"testing"

	"moraine/api"
)

const maxWord = math.MaxUint64

// numbers are the edges of every count of groups, of signs and of bytes, and some between them.
func numbers() []uint64 {
	l := []uint64{0, 1, 2, 3, 126, 127, 128, 129, 255, 256, 257, 258, 300, 1 << 31, 1 << 32, math.MaxInt64, 1 << 63, maxWord - 1, maxWord}
	for shift := 7; shift < 64; shift += 7 {
		l = append(l, 1<<shift-1, 1<<shift, 1<<shift+1)
	}
	chance := rand.New(rand.NewSource(1))
	for i := range 2000 {
		l = append(l, chance.Uint64()>>(i%64))
	}
	return l
}

// texts have lengths on both sides of the varint's edges, and bytes that are no UTF-8.
func texts() []string {
	return []string{"", "a", "ab", "\x00", "\xff\xfe\x80", strings.Repeat("x", 127), strings.Repeat("y", 128), strings.Repeat("z\x00", 10000)}
}

// wrongPlaces are those that no list of a given length has.
func wrongPlaces(length int) []int {
	return []int{-1, -2, math.MinInt, length + 1, length + 2, math.MaxInt}
}

func TestSizeIsTheCountOfGroups(t *testing.T) {
	for _, x := range []struct {
		v    uint64
		want int
	}{
		{0, 1}, {1, 1}, {127, 1}, {128, 2}, {300, 2}, {1<<14 - 1, 2}, {1 << 14, 3}, {1<<21 - 1, 3}, {1 << 21, 4},
		{1<<28 - 1, 4}, {1 << 28, 5}, {1<<35 - 1, 5}, {1 << 35, 6}, {1<<42 - 1, 6}, {1 << 42, 7}, {1<<49 - 1, 7},
		{1 << 49, 8}, {1<<56 - 1, 8}, {1 << 56, 9}, {1<<63 - 1, 9}, {1 << 63, 10}, {maxWord, 10},
	} {
		if got := Size(x.v); got != x.want {
			t.Errorf("Size(%d) = %d, want %d", x.v, got, x.want)
		}
	}
}

func TestPutVarint(t *testing.T) {
	for _, x := range []struct {
		ahead string
		v     uint64
		want  string
	}{
		{"", 0, "\x00"}, {"", 127, "\x7f"}, {"", 128, "\x80\x01"}, {"", 300, "\xac\x02"}, {"\x07\x80", 300, "\x07\x80\xac\x02"},
		{"", 1 << 63, "\x80\x80\x80\x80\x80\x80\x80\x80\x80\x01"}, {"", maxWord, "\xff\xff\xff\xff\xff\xff\xff\xff\xff\x01"},
	} {
		if got := string(PutVarint([]byte(x.ahead), x.v)); got != x.want {
			t.Errorf("PutVarint(%x, %d) = %x, want %x", x.ahead, x.v, got, x.want)
		}
	}
}

func TestPutVarintAsTheLibraryDoes(t *testing.T) {
	for _, v := range numbers() {
		got := PutVarint([]byte("ab"), v)
		if want := binary.AppendUvarint([]byte("ab"), v); string(got) != string(want) {
			t.Errorf("PutVarint(ab, %d) = %x, want %x", v, got, want)
		}
		if len(got) != 2+Size(v) {
			t.Errorf("of %d: %d bytes, Size says %d", v, len(got)-2, Size(v))
		}
	}
}

func TestVarint(t *testing.T) {
	nine := strings.Repeat("\xff", 9)
	for _, x := range []struct {
		b    string
		at   int
		v    uint64
		next int
		e    api.Errno
	}{
		{"\xac\x02\xff", 0, 300, 2, api.OK},
		{"\xac\x02\xff", 1, 2, 2, api.OK},
		{"\x00", 0, 0, 1, api.OK},
		{"\x00\x00", 0, 0, 1, api.OK},
		{"\x7f", 0, 127, 1, api.OK},
		{"\x80\x01", 0, 128, 2, api.OK},
		{nine + "\x01", 0, maxWord, 10, api.OK},
		{"\x05" + nine + "\x01\x05", 1, maxWord, 11, api.OK},
		{"\x80\x80\x80\x80\x80\x80\x80\x80\x80\x01", 0, 1 << 63, 10, api.OK},
		{"", 0, 0, 0, api.ErrShort},
		{"\x00", 1, 0, 0, api.ErrShort},
		{"\x80", 0, 0, 0, api.ErrShort},
		{"\x01\xff", 1, 0, 0, api.ErrShort},
		{nine, 0, 0, 0, api.ErrShort},
		{"\x80\x00", 0, 0, 0, api.ErrForm},
		{"\x81\x80\x00", 0, 0, 0, api.ErrForm},
		{nine + "\x00", 0, 0, 0, api.ErrForm},
		{nine + "\x02", 0, 0, 0, api.ErrForm},
		{nine + "\x7f", 0, 0, 0, api.ErrForm},
		{nine + "\x80", 0, 0, 0, api.ErrForm},
		{nine + "\x81\x01", 0, 0, 0, api.ErrForm},
		{nine + "\xff", 0, 0, 0, api.ErrForm},
	} {
		if v, next, e := Varint([]byte(x.b), x.at); v != x.v || next != x.next || e != x.e {
			t.Errorf("Varint(%x, %d) = %d, %d, %d, want %d, %d, %d", x.b, x.at, v, next, e, x.v, x.next, x.e)
		}
	}
}

func TestFixedBytes(t *testing.T) {
	if got := string(PutFixed32([]byte("\x09"), 258)); got != "\x09\x02\x01\x00\x00" {
		t.Errorf("PutFixed32: %x", got)
	}
	if got := string(PutFixed64([]byte("\x09"), 0x0102030405060708)); got != "\x09\x08\x07\x06\x05\x04\x03\x02\x01" {
		t.Errorf("PutFixed64: %x", got)
	}
	b := []byte("\xaa\x01\x02\x03\x84\x05\x06\x07\x88\xbb")
	if v, next, e := Fixed32(b, 1); v != 0x84030201 || next != 5 || e != api.OK {
		t.Errorf("Fixed32 = %x, %d, %d", v, next, e)
	}
	if v, next, e := Fixed64(b, 1); v != 0x8807060584030201 || next != 9 || e != api.OK {
		t.Errorf("Fixed64 = %x, %d, %d", v, next, e)
	}
}

func TestFixedOfTooFewBytes(t *testing.T) {
	b := []byte("\x01\x02\x03\x04\x05\x06\x07\x08\x09")
	for at := range len(b) + 1 {
		left := len(b) - at
		if v, next, e := Fixed32(b, at); left < 4 && (v != 0 || next != 0 || e != api.ErrShort) || left >= 4 && (next != at+4 || e != api.OK) {
			t.Errorf("Fixed32 with %d left = %d, %d, %d", left, v, next, e)
		}
		if v, next, e := Fixed64(b, at); left < 8 && (v != 0 || next != 0 || e != api.ErrShort) || left >= 8 && (next != at+8 || e != api.OK) {
			t.Errorf("Fixed64 with %d left = %d, %d, %d", left, v, next, e)
		}
	}
}

func TestPutText(t *testing.T) {
	for _, x := range []struct{ ahead, s, want string }{
		{"", "", "\x00"}, {"", "ab", "\x02ab"}, {"\x01", "a\x00\xff", "\x01\x03a\x00\xff"},
		{"", strings.Repeat("q", 127), "\x7f" + strings.Repeat("q", 127)},
		{"", strings.Repeat("q", 128), "\x80\x01" + strings.Repeat("q", 128)},
	} {
		if got := string(PutText([]byte(x.ahead), x.s)); got != x.want {
			t.Errorf("PutText(%x, %x) = %x, want %x", x.ahead, x.s, got, x.want)
		}
	}
}

func TestText(t *testing.T) {
	for _, x := range []struct {
		b    string
		at   int
		s    string
		next int
		e    api.Errno
	}{
		{"\x02ab", 0, "ab", 3, api.OK},
		{"\x02ab\x01", 0, "ab", 3, api.OK},
		{"\x09\x02ab\x01", 1, "ab", 4, api.OK},
		{"\x00", 0, "", 1, api.OK},
		{"\x03ab", 0, "", 0, api.ErrShort},
		{"\x01", 0, "", 0, api.ErrShort},
		{"", 0, "", 0, api.ErrShort},
		{"\x02ab", 3, "", 0, api.ErrShort},
		{"\x80", 0, "", 0, api.ErrShort},
		{"\x82\x00ab", 0, "", 0, api.ErrForm},
		{"\xff\xff\xff\xff\xff\xff\xff\xff\xff\x02ab", 0, "", 0, api.ErrForm},
		{"\xff\xff\xff\xff\xff\xff\xff\xff\xff\x01ab", 0, "", 0, api.ErrShort},
		{"\xff\xff\xff\xff\xff\xff\xff\xff\x7fab", 0, "", 0, api.ErrShort},
		{"\x80\x80\x80\x80\x80\x80\x80\x80\x80\x01ab", 0, "", 0, api.ErrShort},
	} {
		if s, next, e := Text([]byte(x.b), x.at); s != x.s || next != x.next || e != x.e {
			t.Errorf("Text(%x, %d) = %x, %d, %d, want %x, %d, %d", x.b, x.at, s, next, e, x.s, x.next, x.e)
		}
	}
}

func TestPlacesThatAreNone(t *testing.T) {
	for _, b := range [][]byte{nil, {}, {0}, []byte("\x01\x02\x03\x04\x05\x06\x07\x08\x09")} {
		for _, at := range wrongPlaces(len(b)) {
			if v, next, e := Varint(b, at); v != 0 || next != 0 || e != api.ErrArg {
				t.Errorf("Varint(%x, %d) = %d, %d, %d", b, at, v, next, e)
			}
			if v, next, e := Fixed32(b, at); v != 0 || next != 0 || e != api.ErrArg {
				t.Errorf("Fixed32(%x, %d) = %d, %d, %d", b, at, v, next, e)
			}
			if v, next, e := Fixed64(b, at); v != 0 || next != 0 || e != api.ErrArg {
				t.Errorf("Fixed64(%x, %d) = %d, %d, %d", b, at, v, next, e)
			}
			if s, next, e := Text(b, at); s != "" || next != 0 || e != api.ErrArg {
				t.Errorf("Text(%x, %d) = %q, %d, %d", b, at, s, next, e)
			}
		}
	}
}

func TestSigns(t *testing.T) {
	for _, x := range []struct {
		v    int64
		want uint64
	}{
		{0, 0}, {-1, 1}, {1, 2}, {-2, 3}, {2, 4}, {-3, 5}, {3, 6}, {math.MaxInt64, maxWord - 1}, {math.MinInt64, maxWord},
		{math.MinInt64 + 1, maxWord - 2}, {1 << 62, 1 << 63}, {-1 << 62, 1<<63 - 1},
	} {
		if got := Zig(x.v); got != x.want {
			t.Errorf("Zig(%d) = %d, want %d", x.v, got, x.want)
		}
		if got := Zag(x.want); got != x.v {
			t.Errorf("Zag(%d) = %d, want %d", x.want, got, x.v)
		}
	}
}

func TestSignsThereAndBack(t *testing.T) {
	for _, v := range numbers() {
		if got := Zig(Zag(v)); got != v {
			t.Errorf("Zig of Zag(%d) = %d", v, got)
		}
		if got := Zag(Zig(int64(v))); got != int64(v) {
			t.Errorf("Zag of Zig(%d) = %d", int64(v), got)
		}
	}
}

func TestNumbersThereAndBack(t *testing.T) {
	for _, ahead := range []string{"", "\x80", "\xff\x00"} {
		for _, behind := range []string{"", "\x00", "\x01", "\x80\x80", "\xff\xff\xff\xff\xff\xff\xff\xff\xff\xff\xff"} {
			at := len(ahead)
			for _, v := range numbers() {
				b := append(PutVarint([]byte(ahead), v), behind...)
				if got, next, e := Varint(b, at); got != v || next != len(b)-len(behind) || e != api.OK {
					t.Errorf("Varint(%x, %d) = %d, %d, %d, want %d", b, at, got, next, e, v)
				}
				b = append(PutFixed64([]byte(ahead), v), behind...)
				if got, next, e := Fixed64(b, at); got != v || next != at+8 || e != api.OK {
					t.Errorf("Fixed64(%x, %d) = %d, %d, %d, want %d", b, at, got, next, e, v)
				}
				b = append(PutFixed32([]byte(ahead), uint32(v)), behind...)
				if got, next, e := Fixed32(b, at); got != uint32(v) || next != at+4 || e != api.OK {
					t.Errorf("Fixed32(%x, %d) = %d, %d, %d, want %d", b, at, got, next, e, uint32(v))
				}
			}
		}
	}
}

func TestTextsThereAndBack(t *testing.T) {
	for _, ahead := range []string{"", "\x80"} {
		for _, behind := range []string{"", "\x00", "\xff\xff"} {
			for _, s := range texts() {
				b := append(PutText([]byte(ahead), s), behind...)
				if got, next, e := Text(b, len(ahead)); got != s || next != len(b)-len(behind) || e != api.OK {
					t.Errorf("of %d bytes: Text = %d bytes, %d, %d", len(s), len(got), next, e)
				}
			}
		}
	}
}

// TestReadNumbersArePutAsTheirBytes goes through lists of bytes of which many are no varint in its only form.
func TestReadNumbersArePutAsTheirBytes(t *testing.T) {
	chance := rand.New(rand.NewSource(2))
	pool := []byte{0, 1, 2, 0x7f, 0x80, 0x81, 0xff, 0xff, 0x80}
	read := 0
	for range 200000 {
		b := make([]byte, chance.Intn(13))
		for i := range b {
			b[i] = pool[chance.Intn(len(pool))]
		}
		v, next, e := Varint(b, 0)
		if e != api.OK {
			continue
		}
		read++
		if got := PutVarint(nil, v); string(got) != string(b[:next]) {
			t.Fatalf("%x was read as %d, which is put as %x", b[:next], v, got)
		}
	}
	if read < 1000 {
		t.Errorf("only %d lists were read", read)
	}
}

// TestPutLeavesWhatIsHandedIn: rule 4: neither the bytes nor the spare room behind them change, and the answer is other memory.
func TestPutLeavesWhatIsHandedIn(t *testing.T) {
	puts := []func(b []byte) []byte{
		func(b []byte) []byte { return PutVarint(b, 300) },
		func(b []byte) []byte { return PutFixed32(b, 300) },
		func(b []byte) []byte { return PutFixed64(b, 300) },
		func(b []byte) []byte { return PutText(b, "text") },
	}
	for i, put := range puts {
		room := []byte(strings.Repeat("r", 64))
		out := put(room[:2])
		if string(room) != strings.Repeat("r", 64) {
			t.Errorf("put %d wrote into what was handed in: %x", i, room)
		}
		whole := out[:cap(out)]
		for j := range whole {
			whole[j] = '!'
		}
		if string(room) != strings.Repeat("r", 64) {
			t.Errorf("put %d handed out memory that was handed in", i)
		}
	}
}

// TestNothingBehindTheLengthIsRead: rule 8: bytes in the spare room do not count.
func TestNothingBehindTheLengthIsRead(t *testing.T) {
	room := []byte("\x83\x01\x02\x03\x04\x05\x06\x07\x08")
	short := room[:1]
	if _, _, e := Varint(short, 0); e != api.ErrShort {
		t.Errorf("Varint: %d", e)
	}
	if _, _, e := Fixed32(short, 0); e != api.ErrShort {
		t.Errorf("Fixed32: %d", e)
	}
	if _, _, e := Fixed64(room[:7], 0); e != api.ErrShort {
		t.Errorf("Fixed64: %d", e)
	}
	if _, _, e := Text([]byte("\x03abc")[:3], 0); e != api.ErrShort {
		t.Errorf("Text: %d", e)
	}
	if _, _, e := Varint(short, 2); e != api.ErrArg {
		t.Errorf("Varint behind the length: %d", e)
	}
}

// TestCallsOfAnyBytes: whatever bytes and places come, no call panics, and with an error all else is zero.
func TestCallsOfAnyBytes(t *testing.T) {
	chance := rand.New(rand.NewSource(4))
	for range 50000 {
		b := make([]byte, chance.Intn(16))
		chance.Read(b)
		at := chance.Intn(20) - 2
		if v, next, e := Varint(b, at); e != api.OK && (v != 0 || next != 0) {
			t.Fatalf("Varint(%x, %d) = %d, %d, %d", b, at, v, next, e)
		}
		if v, next, e := Fixed32(b, at); e != api.OK && (v != 0 || next != 0) {
			t.Fatalf("Fixed32(%x, %d) = %d, %d, %d", b, at, v, next, e)
		}
		if v, next, e := Fixed64(b, at); e != api.OK && (v != 0 || next != 0) {
			t.Fatalf("Fixed64(%x, %d) = %d, %d, %d", b, at, v, next, e)
		}
		if s, next, e := Text(b, at); e != api.OK && (s != "" || next != 0) {
			t.Fatalf("Text(%x, %d) = %x, %d, %d", b, at, s, next, e)
		}
	}
}
