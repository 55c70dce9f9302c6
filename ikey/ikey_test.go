package ikey

import (
	"bytes"
	"math"
	"strings"
	"testing"

	"moraine/api"
)

const maxWord = math.MaxUint64

var kinds = []int{api.KindDelete, api.KindPut, api.KindRange, api.KindSeek}

// noKinds have kinds' lowest bytes among them, and the neighbours of kinds.
var noKinds = []int{3, 4, 127, 128, 254, 256, 257, 258, 511, 1 << 32, math.MaxInt, -1, -2, -253, -254, -255, -256, math.MinInt, math.MinInt + 1}

func long(size int) string {
	return strings.Repeat("k", size)
}

// keys have beginnings of one another, bytes of both ends, and both sides of the limits.
func keys() []string {
	return []string{"", "\x00", "\x00\x00", "\x00\xff", "a", "a\x00", "a\x00\x00", "a\x01", "a\x7f", "a\x80", "a\xff", "a\xff\x00", "ab", "abc", "b", "\x7f", "\x80", "\xc3\xa4", "\xfe", "\xff", "\xff\x00", "\xff\xff", long(api.MaxKey), long(api.MaxKey + 1)}
}

// keysOf are all of these keys with numbers and kinds, valid and not.
func keysOf(texts []string) (l []api.IKey) {
	for _, key := range texts {
		for _, seq := range []uint64{0, 1, 2, 1 << 55, api.MaxSeq - 1, api.MaxSeq, api.MaxSeq + 1, 1 << 63, maxWord} {
			for _, kind := range []int{math.MinInt, -1, 0, 1, 2, 3, 254, 255, 256, math.MaxInt} {
				l = append(l, api.IKey{Key: key, Seq: seq, Kind: kind})
			}
		}
	}
	return l
}

func TestValid(t *testing.T) {
	for _, kind := range kinds {
		for _, key := range []string{"\x00", "a", "\xff", long(api.MaxKey - 1), long(api.MaxKey)} {
			for _, seq := range []uint64{0, 1, 1 << 55, api.MaxSeq - 1, api.MaxSeq} {
				if k := (api.IKey{Key: key, Seq: seq, Kind: kind}); !Valid(k) {
					t.Errorf("not valid: %d bytes, %d, %d", len(key), seq, kind)
				}
			}
			for _, seq := range []uint64{api.MaxSeq + 1, 1 << 63, maxWord} {
				if Valid(api.IKey{Key: key, Seq: seq, Kind: kind}) {
					t.Errorf("valid with the number %d", seq)
				}
			}
		}
		for _, key := range []string{"", long(api.MaxKey + 1), long(2 * api.MaxKey)} {
			if Valid(api.IKey{Key: key, Seq: 1, Kind: kind}) {
				t.Errorf("valid with %d bytes", len(key))
			}
		}
	}
	for _, kind := range noKinds {
		if Valid(api.IKey{Key: "a", Seq: 1, Kind: kind}) {
			t.Errorf("valid with the kind %d", kind)
		}
	}
	if Valid(api.IKey{}) {
		t.Error("the zero key is valid")
	}
}

func TestCompareOfTheDocument(t *testing.T) {
	for _, x := range []struct {
		a, b api.IKey
		want int
	}{
		{api.IKey{Key: "a", Seq: 5, Kind: api.KindPut}, api.IKey{Key: "a", Seq: 7, Kind: api.KindDelete}, 1},
		{api.IKey{Key: "a", Seq: 5, Kind: api.KindPut}, api.IKey{Key: "a", Seq: 5, Kind: api.KindDelete}, -1},
		{api.IKey{Key: "a", Seq: 1, Kind: api.KindPut}, api.IKey{Key: "ab", Seq: 9, Kind: api.KindPut}, -1},
		{api.IKey{Key: "a", Seq: 1, Kind: api.KindPut}, api.IKey{Key: "a", Seq: 1, Kind: api.KindPut}, 0},
		{api.IKey{}, api.IKey{}, 0},
	} {
		if got := Compare(x.a, x.b); got != x.want {
			t.Errorf("Compare(%v, %v) = %d, want %d", x.a, x.b, got, x.want)
		}
		if got := Compare(x.b, x.a); got != -x.want {
			t.Errorf("Compare(%v, %v) = %d, want %d", x.b, x.a, got, -x.want)
		}
	}
}

// plainCompare is P3.1's words, one by one.
func plainCompare(a, b api.IKey) int {
	switch {
	case a.Key != b.Key:
		return bytes.Compare([]byte(a.Key), []byte(b.Key))
	case a.Seq > b.Seq:
		return -1
	case a.Seq < b.Seq:
		return 1
	case a.Kind > b.Kind:
		return -1
	case a.Kind < b.Kind:
		return 1
	}
	return 0
}

func TestCompareOfAnyTwo(t *testing.T) {
	all := keysOf(keys())
	for _, a := range all {
		for _, b := range all {
			got := Compare(a, b)
			if got != plainCompare(a, b) {
				t.Fatalf("Compare(%v, %v) = %d, want %d", a, b, got, plainCompare(a, b))
			}
			if (got == 0) != (a == b) || got != -Compare(b, a) {
				t.Fatalf("Compare(%v, %v) = %d, the other way about %d", a, b, got, Compare(b, a))
			}
		}
	}
}

func TestCompareIsATotalOrder(t *testing.T) {
	all := keysOf([]string{"", "a", "a\x00", "\xff"})
	for _, a := range all {
		for _, b := range all {
			if Compare(a, b) > 0 {
				continue
			}
			for _, c := range all {
				if Compare(b, c) <= 0 && Compare(a, c) > 0 {
					t.Fatalf("%v, %v, %v", a, b, c)
				}
			}
		}
	}
}

func TestPack(t *testing.T) {
	for _, x := range []struct {
		seq  uint64
		kind int
		want uint64
	}{
		{0, api.KindDelete, 0}, {0, api.KindPut, 1}, {0, api.KindRange, 2}, {0, api.KindSeek, 255}, {1, api.KindDelete, 256},
		{2, api.KindPut, 513}, {2, api.KindSeek, 767}, {api.MaxSeq, api.KindDelete, maxWord - 255}, {api.MaxSeq, api.KindRange, maxWord - 253}, {api.MaxSeq, api.KindSeek, maxWord},
	} {
		if got, e := Pack(x.seq, x.kind); got != x.want || e != api.OK {
			t.Errorf("Pack(%d, %d) = %d, %d; want %d", x.seq, x.kind, got, e, x.want)
		}
		if seq, kind, e := Unpack(x.want); seq != x.seq || kind != x.kind || e != api.OK {
			t.Errorf("Unpack(%d) = %d, %d, %d; want %d, %d", x.want, seq, kind, e, x.seq, x.kind)
		}
	}
}

func TestPackOfWhatMayNotBe(t *testing.T) {
	for _, seq := range []uint64{api.MaxSeq + 1, api.MaxSeq + 2, 1 << 57, 1 << 63, maxWord} {
		for _, kind := range append([]int{3, -1, 256}, kinds...) {
			if got, e := Pack(seq, kind); got != 0 || e != api.ErrArg {
				t.Errorf("Pack(%d, %d) = %d, %d", seq, kind, got, e)
			}
		}
	}
	for _, kind := range noKinds {
		for _, seq := range []uint64{0, 1, api.MaxSeq} {
			if got, e := Pack(seq, kind); got != 0 || e != api.ErrArg {
				t.Errorf("Pack(%d, %d) = %d, %d", seq, kind, got, e)
			}
		}
	}
}

func TestUnpackOfEveryLowestByte(t *testing.T) {
	for low := range 256 {
		for _, seq := range []uint64{0, 1, 255, 256, api.MaxSeq} {
			gotSeq, gotKind, e := Unpack(seq<<8 | uint64(low))
			wantSeq, wantKind, want := seq, low, api.OK
			if low > api.KindRange && low < api.KindSeek {
				wantSeq, wantKind, want = 0, 0, api.ErrKey
			}
			if gotSeq != wantSeq || gotKind != wantKind || e != want {
				t.Errorf("Unpack(%d, %d) = %d, %d, %d", seq, low, gotSeq, gotKind, e)
			}
		}
	}
}

func TestEncode(t *testing.T) {
	for _, x := range []struct {
		k    api.IKey
		want string
	}{
		{api.IKey{Key: "k", Seq: 2, Kind: api.KindPut}, "k\x01\x02\x00\x00\x00\x00\x00\x00"},
		{api.IKey{Key: "\x00", Seq: 0, Kind: api.KindDelete}, "\x00\x00\x00\x00\x00\x00\x00\x00\x00"},
		{api.IKey{Key: "\xff\xfe", Seq: api.MaxSeq, Kind: api.KindSeek}, "\xff\xfe\xff\xff\xff\xff\xff\xff\xff\xff"},
		{api.IKey{Key: "ab", Seq: 0x07060504030201, Kind: api.KindRange}, "ab\x02\x01\x02\x03\x04\x05\x06\x07"},
		{api.IKey{Key: long(api.MaxKey), Seq: 1, Kind: api.KindPut}, long(api.MaxKey) + "\x01\x01\x00\x00\x00\x00\x00\x00"},
	} {
		got, e := Encode(x.k)
		if string(got) != x.want || e != api.OK {
			t.Errorf("Encode(%v) = % x, %d; want % x", x.k, got, e, x.want)
		}
		if k, e := Decode([]byte(x.want)); k != x.k || e != api.OK {
			t.Errorf("Decode(% x) = %v, %d", x.want, k, e)
		}
	}
}

func TestEncodeThereAndBack(t *testing.T) {
	for _, k := range keysOf(keys()) {
		b, e := Encode(k)
		if !Valid(k) {
			if len(b) != 0 || e != api.ErrArg {
				t.Errorf("Encode(%v) = % x, %d", k, b, e)
			}
			continue
		}
		packed, _ := Pack(k.Seq, k.Kind)
		if e != api.OK || len(b) != len(k.Key)+8 || string(b[:len(k.Key)]) != k.Key {
			t.Errorf("Encode(%v) = % x, %d", k, b, e)
		}
		for i := range 8 {
			if b[len(k.Key)+i] != byte(packed>>(8*i)) {
				t.Errorf("Encode(%v): % x behind, want those of %x", k, b[len(k.Key):], packed)
			}
		}
		if got, e := Decode(b); got != k || e != api.OK {
			t.Errorf("Decode of %v's bytes = %v, %d", k, got, e)
		}
	}
}

func TestDecodeOfNoKey(t *testing.T) {
	expectNone := func(b []byte) {
		t.Helper()
		if k, e := Decode(b); k != (api.IKey{}) || e != api.ErrKey {
			t.Errorf("Decode of %d bytes = %v, %d", len(b), k, e)
		}
	}
	expectNone(nil)
	for size := range 9 {
		expectNone(make([]byte, size))
		expectNone(bytes.Repeat([]byte{0xff}, size))
	}
	for _, size := range []int{api.MaxKey + 1, api.MaxKey + 2, 2 * api.MaxKey, 1 << 20} {
		expectNone([]byte(long(size) + "\x01\x01\x00\x00\x00\x00\x00\x00"))
	}
	for low := range 256 {
		if low > api.KindRange && low < api.KindSeek {
			expectNone([]byte{'k', byte(low), 2, 0, 0, 0, 0, 0, 0})
		}
	}
}

// Rules 4 and 8.
func TestBytesAreNotShared(t *testing.T) {
	k := api.IKey{Key: "key", Seq: 2, Kind: api.KindPut}
	a, _ := Encode(k)
	b, _ := Encode(k)
	clear(a[:cap(a)])
	if got, e := Decode(b); got != k || e != api.OK {
		t.Errorf("two answers share memory: %v, %d", got, e)
	}
	room := append(bytes.Clone(b), "behind"...)
	got, e := Decode(room[:len(b)])
	if got != k || e != api.OK || string(room) != string(b)+"behind" {
		t.Errorf("Decode ahead of spare room = %v, %d; the bytes % x", got, e, room)
	}
	clear(room)
	if got != k {
		t.Errorf("what was told hangs on the bytes: %v", got)
	}
	if _, e := Decode(b[:8]); e != api.ErrKey {
		t.Errorf("a byte behind the length was read: %d", e)
	}
}

func TestAt(t *testing.T) {
	for _, key := range keys() {
		for _, x := range []struct{ seq, want uint64 }{
			{0, 0}, {1, 1}, {9, 9}, {api.MaxSeq - 1, api.MaxSeq - 1}, {api.MaxSeq, api.MaxSeq}, {api.MaxSeq + 1, api.MaxSeq}, {maxWord, api.MaxSeq},
		} {
			if got, want := At(key, x.seq), (api.IKey{Key: key, Seq: x.want, Kind: 255}); got != want {
				t.Errorf("At(%q, %d) = %v", key, x.seq, got)
			}
		}
	}
}

func TestAtStandsBetweenWhatIsSeenAndWhatIsNot(t *testing.T) {
	numbers := []uint64{0, 1, 8, 9, 10, api.MaxSeq - 1, api.MaxSeq}
	for _, at := range append([]uint64{api.MaxSeq + 1, maxWord}, numbers...) {
		for _, seq := range numbers {
			for _, kind := range kinds {
				behind := Compare(At("k", at), api.IKey{Key: "k", Seq: seq, Kind: kind}) > 0
				if behind != (seq > at) {
					t.Errorf("At(k, %d) and the number %d, the kind %d: behind is %v", at, seq, kind, behind)
				}
			}
		}
	}
}

func TestAfter(t *testing.T) {
	for _, key := range keys() {
		got := After(key)
		if got != key+"\x00" {
			t.Errorf("After(%q) = %q", key, got)
		}
		for _, other := range keys() {
			if other > key && other < got {
				t.Errorf("After(%q) = %q, but %q is between", key, got, other)
			}
		}
	}
}
