package batch

import (
	"math/rand"
	"slices"
	"strings"
	"testing"

	"moraine/api"
)

// twenty are the bytes of the chapter's first example.
const twenty = "\x01\x00\x00\x00\x00\x00\x00\x00\x02\x00\x00\x00\x01\x01k\x01v\x00\x01d"

func expectCheck(t *testing.T, ops []api.Op, wantAt int, wantE api.Errno) {
	t.Helper()
	if at, e := Check(ops); at != wantAt || e != wantE {
		t.Errorf("Check = %d, error %d; want %d, error %d", at, int(e), wantAt, int(wantE))
	}
	wantSize := 0
	if wantE == api.OK {
		wantSize = len(plainBatch(0, 0, ops))
	}
	if size, e := Size(ops); size != wantSize || e != wantE {
		t.Errorf("Size = %d, error %d; want %d, error %d", size, int(e), wantSize, int(wantE))
	}
}

// P4.1: which operations may be.
func TestCheckOfOne(t *testing.T) {
	key, longest := of(api.MaxKey), of(api.MaxValue)
	for _, o := range []api.Op{
		put("k", "v"), put("k", ""), put("\x00", "\x00"), put(key, longest), put("b", "a"),
		del("d"), del("\x00"), del(key),
		span("a", "b"), span("a", "a\x00"), span("\x00", "\x01"), span("\x7f", "\x80"), span("b", "c"+of(api.MaxKey-1)), span(key[1:], key), span(key, "l"),
	} {
		expectCheck(t, []api.Op{o}, 0, api.OK)
	}
	for _, o := range []api.Op{
		put("", "v"), put("", ""), put(key+"k", "v"), put("k", longest+"k"),
		del(""), del(key + "k"), {Kind: api.KindDelete, Key: "d", Value: "v"}, {Kind: api.KindDelete, Key: "d", Value: "\x00"},
		span("", "b"), span("", ""), span("a", ""), span("b", "b"), span("b", "a"), span("a\x00", "a"), span("\x80", "\x7f"), span("a", "b"+key), span(key+"k", "l"),
		{Kind: 3, Key: "a"}, {Kind: 3, Key: "a", Value: "b"}, {Kind: -1, Key: "a"}, {Kind: api.KindSeek, Key: "a"}, {Kind: 256, Key: "a"}, {Kind: 257, Key: "a", Value: "b"}, {Kind: 258, Key: "a", Value: "b"}, {Kind: 1<<63 - 1, Key: "a"}, {Kind: -1 << 63, Key: "a"}, {},
	} {
		expectCheck(t, []api.Op{o}, 0, api.ErrOp)
		expectCheck(t, []api.Op{del("a"), put("b", "c"), o}, 2, api.ErrOp)
		expectCheck(t, []api.Op{del("a"), o, put("b", "c"), o}, 1, api.ErrOp)
		b, e := Encode(1, []api.Op{del("a"), o})
		expectBytes(t, b, e, nil, api.ErrOp)
	}
}

// P4.1: no operation, MaxOps and one more, MaxBatch bytes and one more, and which error comes first.
func TestCheckOfMany(t *testing.T) {
	expectCheck(t, nil, 0, api.OK)
	expectCheck(t, []api.Op{}, 0, api.OK)
	if size, _ := Size(nil); size != 12 {
		t.Errorf("Size of none = %d", size)
	}
	expectCheck(t, manyOps(api.MaxOps), 0, api.OK)
	expectCheck(t, manyOps(api.MaxOps+1), 0, api.ErrBig)
	expectCheck(t, fullOps(-1), 0, api.OK)
	expectCheck(t, fullOps(0), 0, api.OK)
	if size, _ := Size(fullOps(0)); size != api.MaxBatch {
		t.Errorf("Size at the limit = %d", size)
	}
	expectCheck(t, fullOps(1), 0, api.ErrBig)
	expectCheck(t, append(fullOps(1), del("")), 16, api.ErrOp)
	expectCheck(t, append(manyOps(api.MaxOps-1), del("")), api.MaxOps-1, api.ErrOp)
	expectCheck(t, append([]api.Op{del("")}, manyOps(api.MaxOps)...), 0, api.ErrBig)
	// Far beyond: the bytes of each of MaxOps operations at its greatest.
	expectCheck(t, slices.Repeat([]api.Op{put("k", of(api.MaxValue))}, api.MaxOps), 0, api.ErrBig)
}

// P4.2, example 1.
func TestEncode(t *testing.T) {
	for _, x := range []struct {
		seq  uint64
		ops  []api.Op
		want string
	}{
		{1, []api.Op{put("k", "v"), del("d")}, twenty},
		{7, nil, "\x07\x00\x00\x00\x00\x00\x00\x00\x00\x00\x00\x00"},
		{0, []api.Op{}, "\x00\x00\x00\x00\x00\x00\x00\x00\x00\x00\x00\x00"},
		{api.MaxSeq, []api.Op{span("a", "bc")}, "\xff\xff\xff\xff\xff\xff\xff\x00\x01\x00\x00\x00\x02\x01a\x02bc"},
		{0x0102030405060708 >> 8, []api.Op{put("k", "")}, "\x07\x06\x05\x04\x03\x02\x01\x00\x01\x00\x00\x00\x01\x01k\x00"},
		{2, []api.Op{put(of(128), of(127))}, "\x02\x00\x00\x00\x00\x00\x00\x00\x01\x00\x00\x00\x01\x80\x01" + of(128) + "\x7f" + of(127)},
		{3, manyOps(258), "\x03\x00\x00\x00\x00\x00\x00\x00\x02\x01\x00\x00" + strings.Repeat("\x00\x01d", 258)},
	} {
		b, e := Encode(x.seq, x.ops)
		expectBytes(t, b, e, []byte(x.want), api.OK)
		expectDecoded(t, []byte(x.want), x.seq, x.ops, api.OK)
	}
}

// P4.2: the limits of a whole batch.
func TestEncodeAtLimits(t *testing.T) {
	for _, ops := range [][]api.Op{manyOps(api.MaxOps), fullOps(0), {put(of(api.MaxKey), of(api.MaxValue))}} {
		b, e := Encode(9, ops)
		expectBytes(t, b, e, plainBatch(9, uint32(len(ops)), ops), api.OK)
		expectDecoded(t, b, 9, ops, api.OK)
	}
	for _, ops := range [][]api.Op{manyOps(api.MaxOps + 1), fullOps(1)} {
		b, e := Encode(9, ops)
		expectBytes(t, b, e, nil, api.ErrBig)
		b, e = Encode(maxWord, ops)
		expectBytes(t, b, e, nil, api.ErrBig)
		expectDecoded(t, plainBatch(9, uint32(len(ops)), ops), 0, nil, api.ErrBatch)
	}
	b, e := Encode(maxWord, []api.Op{del("")})
	expectBytes(t, b, e, nil, api.ErrOp)
}

// P4.2, example 2: numbers fit, of one operation and of several.
func TestNumbersFit(t *testing.T) {
	for _, x := range []struct {
		seq  uint64
		n    int
		want api.Errno
	}{
		{0, 0, api.OK}, {0, 3, api.OK}, {api.MaxSeq, 0, api.OK}, {api.MaxSeq, 1, api.OK}, {api.MaxSeq - 1, 2, api.OK}, {api.MaxSeq - api.MaxOps + 1, api.MaxOps, api.OK},
		{api.MaxSeq, 2, api.ErrSeq}, {api.MaxSeq - 1, 3, api.ErrSeq}, {api.MaxSeq - api.MaxOps + 2, api.MaxOps, api.ErrSeq},
		{api.MaxSeq + 1, 0, api.ErrSeq}, {api.MaxSeq + 1, 1, api.ErrSeq}, {maxWord, 0, api.ErrSeq}, {maxWord, 1, api.ErrSeq}, {maxWord, 2, api.ErrSeq}, {maxWord - 1, 3, api.ErrSeq}, {1 << 63, 2, api.ErrSeq},
	} {
		ops := manyOps(x.n)
		formed := plainBatch(x.seq, uint32(x.n), ops)
		b, e := Encode(x.seq, ops)
		renumbered, e2 := Renumber(plainBatch(1, uint32(x.n), ops), x.seq)
		if x.want == api.OK {
			expectBytes(t, b, e, formed, api.OK)
			expectBytes(t, renumbered, e2, formed, api.OK)
			expectDecoded(t, formed, x.seq, ops, api.OK)
			continue
		}
		expectBytes(t, b, e, nil, x.want)
		expectBytes(t, renumbered, e2, nil, x.want)
		expectDecoded(t, formed, 0, nil, api.ErrBatch)
	}
}

// P4.2, example 3: bytes that are no batch.
func TestDecodeOfNone(t *testing.T) {
	head, body := twenty[:8], twenty[12:]
	for _, s := range []string{
		"", "\x00", twenty[:11], twenty[:12], twenty[:19], twenty + "\x00", twenty + "\x00\x01d",
		head + "\x01\x00\x00\x00" + body, head + "\x03\x00\x00\x00" + body, head + "\x00\x00\x00\x00" + body, head + "\x02\x01\x00\x00" + body, head + "\x02\x00\x00\x01" + body, head + "\xff\xff\xff\xff" + body,
		head + "\x02\x00\x00\x00\x01\x81\x00k\x01v\x00\x01d", head + "\x02\x00\x00\x00\x01\x01k\x81\x00v\x00\x01d", head + "\x02\x00\x00\x00\x01\x01k\x01v\x00\x81\x00d",
		head + "\x01\x00\x00\x00\x01\x01k\x80\x00", head + "\x01\x00\x00\x00\x01\x01k\xff\xff\xff\xff\xff\xff\xff\xff\xff\x01", head + "\x01\x00\x00\x00\x00\xff\xff\xff\xff\xff\xff\xff\xff\xff\xff\x01",
		head + "\x01\x00\x00\x00\x03\x01k\x01v", head + "\x01\x00\x00\x00\xff\x01k\x01v", head + "\x01\x00\x00\x00\x81\x00\x01k\x01v", head + "\x01\x00\x00\x00\x01\x00\x01v", head + "\x01\x00\x00\x00\x00\x00", head + "\x01\x00\x00\x00\x02\x01b\x01b", head + "\x01\x00\x00\x00\x02\x01b\x01a", head + "\x01\x00\x00\x00\x02\x01a\x00",
		head + "\x01\x00\x00\x00\x00\x01d\x01v", head + "\x01\x00\x00\x00\x01", head + "\x01\x00\x00\x00\x01\x01", head + "\x01\x00\x00\x00\x01\x01k", head + "\x01\x00\x00\x00",
		twenty[:7] + "\x01" + twenty[8:],
	} {
		expectDecoded(t, []byte(s), 0, nil, api.ErrBatch)
		b, e := Renumber([]byte(s), maxWord)
		expectBytes(t, b, e, nil, api.ErrBatch)
	}
	for _, o := range []api.Op{put(of(api.MaxKey+1), "v"), put("k", of(api.MaxValue+1)), del(of(api.MaxKey + 1)), span("a", of(api.MaxKey+1)), span(of(api.MaxKey+1), "l")} {
		expectDecoded(t, plainBatch(1, 1, []api.Op{o}), 0, nil, api.ErrBatch)
	}
}

// P4.2: any bytes, held against the chapter's words: batches that a byte is changed in, taken from or put into.
func TestDecodeOfAnyBytes(t *testing.T) {
	chance := rand.New(rand.NewSource(1))
	good := 0
	for range 6000 {
		ops := someOps(chance, chance.Intn(4), chance.Intn(3) == 0)
		b := plainBatch(someSeq(chance), uint32(len(ops)), ops)
		for range chance.Intn(3) {
			at := chance.Intn(len(b))
			switch chance.Intn(4) {
			case 0:
				b[at] = []byte{0, 1, 2, 3, 127, 128, 129, 255}[chance.Intn(8)]
			case 1:
				b = slices.Delete(b, at, at+1)
			case 2:
				b = slices.Insert(b, at, byte(chance.Intn(4)))
			case 3:
				b[8] = byte(chance.Intn(6))
			}
		}
		seq, want, e := plainDecode(b)
		expectDecoded(t, b, seq, want, e)
		expectWalked(t, b, plainWalk(b))
		if e == api.OK {
			good++
		}
	}
	if good < 1000 || good > 5000 {
		t.Errorf("%d of 6000 were batches: too few of one kind were tried", good)
	}
}

// P4.3.
func TestHead(t *testing.T) {
	for _, x := range []struct {
		b     string
		seq   uint64
		count int
		e     api.Errno
	}{
		{"", 0, 0, api.ErrBatch}, {twenty[:8], 0, 0, api.ErrBatch}, {twenty[:11], 0, 0, api.ErrBatch}, {twenty[:12], 1, 2, api.OK}, {twenty, 1, 2, api.OK}, {twenty[:12] + "\xff\xff", 1, 2, api.OK},
		{strings.Repeat("\xff", 11), 0, 0, api.ErrBatch}, {strings.Repeat("\xff", 12), maxWord, 1<<32 - 1, api.OK},
		{"\x08\x07\x06\x05\x04\x03\x02\x01\x04\x03\x02\x01", 0x0102030405060708, 0x01020304, api.OK}, {strings.Repeat("\x00", 12), 0, 0, api.OK},
	} {
		if seq, count, e := Head([]byte(x.b)); seq != x.seq || count != x.count || e != x.e {
			t.Errorf("Head(%x) = %d, %d, %d; want %d, %d, %d", x.b, seq, count, int(e), x.seq, x.count, int(x.e))
		}
	}
	if _, _, e := Head(nil); e != api.ErrBatch {
		t.Errorf("Head(nil): error %d", int(e))
	}
}

// P4.7: there and back, from both sides.
func TestThereAndBack(t *testing.T) {
	chance := rand.New(rand.NewSource(2))
	for range 3000 {
		seq, ops := someSeq(chance), someOps(chance, chance.Intn(6), chance.Intn(4) == 0)
		want, wantE := plainEncode(seq, ops)
		b, e := Encode(seq, ops)
		expectBytes(t, b, e, want, wantE)
		if e != api.OK {
			continue
		}
		expectDecoded(t, b, seq, ops, api.OK)
		gotSeq, gotOps, _ := Decode(b)
		again, e := Encode(gotSeq, gotOps)
		expectBytes(t, again, e, b, api.OK)
	}
}

// P4.7: no batch is the beginning of another one's bytes.
func TestNoBatchBeginsAnother(t *testing.T) {
	chance := rand.New(rand.NewSource(3))
	for range 40 {
		b := mustEncode(t, 5, someOps(chance, chance.Intn(4), false))
		for size := range b {
			expectDecoded(t, b[:size], 0, nil, api.ErrBatch)
		}
		for _, more := range []string{"\x00", "\x00\x01d", "\x01\x01k\x00", string(b)} {
			expectDecoded(t, append(slices.Clone(b), more...), 0, nil, api.ErrBatch)
		}
	}
}

// Rules 4 and 8: what is handed in stays as it was, its spare room too; what is handed out is new.
func TestNothingIsShared(t *testing.T) {
	room := []api.Op{put("k", "v"), del("d"), del(""), put("x", "y")}
	kept := slices.Clone(room)
	b := mustEncode(t, 1, room[:2])
	expectBytes(t, b, api.OK, []byte(twenty), api.OK)
	expectCheck(t, room[:2], 0, api.OK)
	if !slices.Equal(room, kept) {
		t.Error("operations that were handed in have changed")
	}
	bytes := append([]byte(twenty), "\x00\x01e"...)
	for _, size := range []int{0, 12, 19} {
		expectDecoded(t, bytes[:size], 0, nil, api.ErrBatch)
		if _, _, e := Head(bytes[:min(size, 11)]); e != api.ErrBatch {
			t.Errorf("Head of %d bytes: error %d", size, int(e))
		}
	}
	_, ops, _ := Decode(bytes[:20])
	_, others, _ := Decode(bytes[:20])
	spoilOps(ops)
	expectDecoded(t, bytes[:20], 1, room[:2], api.OK)
	if !slices.Equal(others, room[:2]) {
		t.Error("two answers share memory")
	}
	for i := range bytes {
		bytes[i] = 'z'
	}
	if !slices.Equal(others, room[:2]) {
		t.Error("what was decoded has changed with the bytes")
	}
}

func spoilOps(ops []api.Op) {
	ops = ops[:cap(ops)]
	for i := range ops {
		ops[i] = del("spoilt")
	}
}

func spoil(b []byte) {
	b = b[:cap(b)]
	for i := range b {
		b[i] = 'z'
	}
}
