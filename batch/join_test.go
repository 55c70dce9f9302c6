package batch

import (
	"math/rand"
	"slices"
	"testing"

	"moraine/api"
)

func expectJoined(t *testing.T, a, b, want []byte, wantE api.Errno) {
	t.Helper()
	got, e := Join(a, b)
	expectBytes(t, got, e, want, wantE)
}

// P4.4.
func TestRenumber(t *testing.T) {
	ops := []api.Op{put("k", "v"), del("d")}
	for _, seq := range []uint64{0, 1, 90, api.MaxSeq - 1} {
		b, e := Renumber([]byte(twenty), seq)
		expectBytes(t, b, e, plainBatch(seq, 2, ops), api.OK)
	}
	for _, seq := range []uint64{api.MaxSeq, api.MaxSeq + 1, maxWord} {
		b, e := Renumber([]byte(twenty), seq)
		expectBytes(t, b, e, nil, api.ErrSeq)
	}
	for _, ops := range [][]api.Op{nil, manyOps(api.MaxOps), fullOps(0)} {
		b, e := Renumber(mustEncode(t, 3, ops), 4)
		expectBytes(t, b, e, plainBatch(4, uint32(len(ops)), ops), api.OK)
	}
	b, e := Renumber([]byte(twenty)[:19], 1)
	expectBytes(t, b, e, nil, api.ErrBatch)
	b, e = Renumber(nil, maxWord)
	expectBytes(t, b, e, nil, api.ErrBatch)
}

// P4.4, example 4.
func TestJoin(t *testing.T) {
	a := mustEncode(t, 5, []api.Op{put("k", "v"), del("d")})
	b := mustEncode(t, 90, []api.Op{span("x", "y")})
	joined, e := Join(a, b)
	expectErrno(t, e, api.OK)
	expectDecoded(t, joined, 5, []api.Op{put("k", "v"), del("d"), span("x", "y")}, api.OK)
	expectWalked(t, joined, []numbered{{5, put("k", "v")}, {6, del("d")}, {7, span("x", "y")}})
	expectJoined(t, b, a, plainBatch(90, 3, []api.Op{span("x", "y"), put("k", "v"), del("d")}), api.OK)
	expectJoined(t, a, a, plainBatch(5, 4, []api.Op{put("k", "v"), del("d"), put("k", "v"), del("d")}), api.OK)
	none := mustEncode(t, 7, nil)
	expectJoined(t, a, none, a, api.OK)
	expectJoined(t, none, a, plainBatch(7, 2, []api.Op{put("k", "v"), del("d")}), api.OK)
	expectJoined(t, none, mustEncode(t, 8, nil), none, api.OK)
}

// P4.4: what is refused, and what comes first.
func TestJoinRefused(t *testing.T) {
	one, none := mustEncode(t, 1, manyOps(1)), mustEncode(t, 1, nil)
	most, full := mustEncode(t, 1, manyOps(api.MaxOps)), mustEncode(t, 1, fullOps(0))
	last := mustEncode(t, api.MaxSeq, manyOps(1))
	for _, bad := range [][]byte{nil, []byte(twenty)[:19], []byte(twenty + "\x00"), plainBatch(1, 1, []api.Op{del("")}), plainBatch(api.MaxSeq+1, 0, nil), plainBatch(1, 17, append(fullOps(0), del("d")))} {
		for _, good := range [][]byte{one, most, full, last} {
			expectJoined(t, bad, good, nil, api.ErrBatch)
			expectJoined(t, good, bad, nil, api.ErrBatch)
		}
		expectJoined(t, bad, bad, nil, api.ErrBatch)
	}
	expectJoined(t, most, none, most, api.OK)
	expectJoined(t, most, one, nil, api.ErrBig)
	expectJoined(t, one, most, nil, api.ErrBig)
	expectJoined(t, mustEncode(t, 1, manyOps(api.MaxOps-1)), one, most, api.OK)
	expectJoined(t, full, none, full, api.OK)
	expectJoined(t, full, one, nil, api.ErrBig)
	expectJoined(t, mustEncode(t, 1, fullOps(-3)), one, plainBatch(1, 17, append(fullOps(-3), del("d"))), api.OK)
	expectJoined(t, mustEncode(t, 1, fullOps(-2)), one, nil, api.ErrBig)
	expectJoined(t, last, none, last, api.OK)
	expectJoined(t, last, one, nil, api.ErrSeq)
	expectJoined(t, one, last, plainBatch(1, 2, manyOps(2)), api.OK)
	expectJoined(t, mustEncode(t, api.MaxSeq, nil), one, last, api.OK)
	expectJoined(t, mustEncode(t, api.MaxSeq, nil), mustEncode(t, 1, manyOps(2)), nil, api.ErrSeq)
	expectJoined(t, mustEncode(t, api.MaxSeq-1, manyOps(1)), one, plainBatch(api.MaxSeq-1, 2, manyOps(2)), api.OK)
	// Too many operations come ahead of numbers that do not fit.
	expectJoined(t, last, most, nil, api.ErrBig)
	expectJoined(t, last, full, nil, api.ErrBig)
}

// P4.8: the operations of both, numbered on; which two of three are joined first changes nothing.
func TestJoinOfThree(t *testing.T) {
	chance := rand.New(rand.NewSource(4))
	for range 500 {
		var parts [3][]byte
		var all []api.Op
		for i := range parts {
			ops := someOps(chance, chance.Intn(4), false)
			parts[i] = mustEncode(t, uint64(chance.Intn(1000)), ops)
			all = append(all, ops...)
		}
		seq, _, _ := Head(parts[0])
		want := plainBatch(seq, uint32(len(all)), all)
		left, _ := Join(parts[0], parts[1])
		expectJoined(t, left, parts[2], want, api.OK)
		right, _ := Join(parts[1], parts[2])
		expectJoined(t, parts[0], right, want, api.OK)
		for number, o := range Walk(want) {
			if o != all[number-seq] {
				t.Fatalf("number %d is of %v, want %v", number, o, all[number-seq])
			}
		}
	}
}

// Rules 4 and 8.
func TestJoinSharesNothing(t *testing.T) {
	a := append(make([]byte, 0, 64), twenty...)
	b := append(make([]byte, 0, 64), twenty...)
	joined, e := Join(a, b)
	expectErrno(t, e, api.OK)
	same, e := Join(a, mustEncode(t, 1, nil))
	expectErrno(t, e, api.OK)
	renumbered, e := Renumber(a, 1)
	expectErrno(t, e, api.OK)
	spoil(joined)
	spoil(same)
	spoil(renumbered)
	for _, x := range [][]byte{a, b} {
		if string(x) != twenty || slices.ContainsFunc(x[20:cap(x)], func(c byte) bool { return c != 0 }) {
			t.Errorf("what was handed in has changed: %x", x[:cap(x)])
		}
	}
}
