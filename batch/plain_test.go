package batch

import (
	"encoding/binary"
	"math/rand"
	"slices"
	"strings"
	"testing"

	"moraine/api"
)

// What the chapter says, word by word and without the package's own functions: the tests hold the package against it.

const maxWord = 1<<64 - 1

func put(key, value string) api.Op { return api.Op{Kind: api.KindPut, Key: key, Value: value} }

func del(key string) api.Op { return api.Op{Kind: api.KindDelete, Key: key} }

func span(begin, end string) api.Op { return api.Op{Kind: api.KindRange, Key: begin, Value: end} }

// of makes a text of so many bytes.
func of(size int) string { return strings.Repeat("k", size) }

func plainMay(o api.Op) bool {
	if o.Kind != api.KindDelete && o.Kind != api.KindPut && o.Kind != api.KindRange {
		return false
	}
	if len(o.Key) < 1 || len(o.Key) > 1024 {
		return false
	}
	if o.Kind == api.KindDelete {
		return len(o.Value) == 0
	}
	if o.Kind == api.KindPut {
		return len(o.Value) <= 65536
	}
	return len(o.Value) >= 1 && len(o.Value) <= 1024 && strings.Compare(o.Key, o.Value) == -1
}

func plainOp(o api.Op) []byte {
	b := []byte{byte(o.Kind)}
	b = binary.AppendUvarint(b, uint64(len(o.Key)))
	b = append(b, o.Key...)
	if o.Kind != api.KindDelete {
		b = binary.AppendUvarint(b, uint64(len(o.Value)))
		b = append(b, o.Value...)
	}
	return b
}

// plainBatch lays bytes in a batch's form, whether it may be or not.
func plainBatch(seq uint64, count uint32, ops []api.Op) []byte {
	b := binary.LittleEndian.AppendUint64(nil, seq)
	b = binary.LittleEndian.AppendUint32(b, count)
	for _, o := range ops {
		b = append(b, plainOp(o)...)
	}
	return b
}

func plainFits(seq uint64, n int) bool {
	for i := range max(n, 1) {
		number := seq + uint64(i)
		if number > api.MaxSeq || number < seq {
			return false
		}
	}
	return true
}

func plainEncode(seq uint64, ops []api.Op) ([]byte, api.Errno) {
	if len(ops) > 4096 {
		return nil, api.ErrBig
	}
	for _, o := range ops {
		if !plainMay(o) {
			return nil, api.ErrOp
		}
	}
	b := plainBatch(seq, uint32(len(ops)), ops)
	if len(b) > 1<<20 {
		return nil, api.ErrBig
	}
	if !plainFits(seq, len(ops)) {
		return nil, api.ErrSeq
	}
	return b, api.OK
}

// plainRead reads an operation at the beginning of b, if the bytes of one that may be stand there.
func plainRead(b []byte) (o api.Op, size int, ok bool) {
	if len(b) == 0 {
		return o, 0, false
	}
	o.Kind = int(b[0])
	at := 1
	for i, s := range []*string{&o.Key, &o.Value} {
		if i == 1 && o.Kind == api.KindDelete {
			break
		}
		length, n := binary.Uvarint(b[at:])
		if n <= 0 || length > uint64(len(b)-at-n) {
			return api.Op{}, 0, false
		}
		*s = string(b[at+n : at+n+int(length)])
		at += n + int(length)
	}
	if !plainMay(o) || string(plainOp(o)) != string(b[:at]) {
		return api.Op{}, 0, false
	}
	return o, at, true
}

// numbered is an operation with its number.
type numbered struct {
	seq uint64
	op  api.Op
}

func plainWalk(b []byte) []numbered {
	if len(b) < 12 {
		return nil
	}
	seq, count := binary.LittleEndian.Uint64(b), binary.LittleEndian.Uint32(b[8:])
	var out []numbered
	for rest := b[12:]; uint32(len(out)) < count; {
		o, size, ok := plainRead(rest)
		if !ok {
			break
		}
		out = append(out, numbered{seq + uint64(len(out)), o})
		rest = rest[size:]
	}
	return out
}

// plainDecode takes what Walk is to tell, and asks whether Encode of it is b.
func plainDecode(b []byte) (uint64, []api.Op, api.Errno) {
	if len(b) < 12 {
		return 0, nil, api.ErrBatch
	}
	seq := binary.LittleEndian.Uint64(b)
	var ops []api.Op
	for _, x := range plainWalk(b) {
		ops = append(ops, x.op)
	}
	if again, e := plainEncode(seq, ops); e != api.OK || string(again) != string(b) {
		return 0, nil, api.ErrBatch
	}
	return seq, ops, api.OK
}

// someOps makes operations, short ones and now and then one at a limit; wrong: some may not be.
func someOps(chance *rand.Rand, n int, wrong bool) []api.Op {
	ops := make([]api.Op, n)
	for i := range ops {
		ops[i] = someOp(chance)
		for !wrong && !plainMay(ops[i]) {
			ops[i] = someOp(chance)
		}
	}
	return ops
}

func someOp(chance *rand.Rand) api.Op {
	kinds := []int{api.KindDelete, api.KindPut, api.KindRange, api.KindPut, api.KindDelete, api.KindRange, 3, -1, 255, 256, 257}
	o := api.Op{Kind: kinds[chance.Intn(len(kinds))], Key: someText(chance)}
	if o.Kind != api.KindDelete || chance.Intn(4) == 0 {
		o.Value = someText(chance)
	}
	return o
}

func someText(chance *rand.Rand) string {
	sizes := []int{0, 1, 1, 1, 2, 3, 5, 127, 128, 129, 1023, 1024, 1025}
	b := make([]byte, sizes[chance.Intn(len(sizes))])
	for i := range b {
		b[i] = []byte{0, 1, 'a', 'b', 127, 128, 255}[chance.Intn(7)]
	}
	return string(b)
}

// someSeq makes a number, now and then one at the edge.
func someSeq(chance *rand.Rand) uint64 {
	switch chance.Intn(4) {
	case 0:
		return api.MaxSeq - uint64(chance.Intn(4))
	case 1:
		return []uint64{0, 1, api.MaxSeq, api.MaxSeq + 1, maxWord - 1, maxWord}[chance.Intn(6)]
	}
	return chance.Uint64() >> (8 + chance.Intn(56))
}

// fullOps makes operations whose batch has MaxBatch bytes and so many more.
func fullOps(more int) []api.Op {
	var ops []api.Op
	for range 15 {
		ops = append(ops, put("k", of(api.MaxValue)))
	}
	left := api.MaxBatch - len(plainBatch(0, 0, ops))
	return append(ops, put("k", of(left-6+more)))
}

// manyOps makes so many operations.
func manyOps(n int) []api.Op { return slices.Repeat([]api.Op{del("d")}, n) }

func expectErrno(t *testing.T, got, want api.Errno) {
	t.Helper()
	if got != want {
		t.Errorf("error %d, want %d", int(got), int(want))
	}
}

// expectBytes: with an error there are none.
func expectBytes(t *testing.T, b []byte, e api.Errno, want []byte, wantE api.Errno) {
	t.Helper()
	if string(b) != string(want) || e != wantE {
		t.Errorf("%d bytes %.60x, error %d; want %d bytes %.60x, error %d", len(b), b, int(e), len(want), want, int(wantE))
	}
}

func expectDecoded(t *testing.T, b []byte, wantSeq uint64, wantOps []api.Op, wantE api.Errno) {
	t.Helper()
	seq, ops, e := Decode(b)
	if seq != wantSeq || !slices.Equal(ops, wantOps) || e != wantE {
		t.Errorf("Decode(%.60x) = %d, %d operations, error %d; want %d, %d, %d", b, seq, len(ops), int(e), wantSeq, len(wantOps), int(wantE))
	}
}

func expectWalked(t *testing.T, b []byte, want []numbered) {
	t.Helper()
	var got []numbered
	for seq, o := range Walk(b) {
		got = append(got, numbered{seq, o})
	}
	if !slices.Equal(got, want) {
		t.Errorf("Walk(%.60x) tells %d operations, want %d", b, len(got), len(want))
	}
}

// mustEncode makes a batch that may be.
func mustEncode(t *testing.T, seq uint64, ops []api.Op) []byte {
	t.Helper()
	b, e := Encode(seq, ops)
	if e != api.OK {
		t.Fatalf("Encode(%d, %d operations): error %d", seq, len(ops), int(e))
	}
	return b
}
