package batch

import (
	"slices"
	"strings"
	"testing"

	"moraine/api"
)

// P4.5, example 3.
func TestWalk(t *testing.T) {
	first, second := numbered{1, put("k", "v")}, numbered{2, del("d")}
	head, body := twenty[:8], twenty[12:]
	for _, x := range []struct {
		b    string
		want []numbered
	}{
		{"", nil}, {twenty[:11], nil}, {twenty[:12], nil}, {strings.Repeat("\xff", 11), nil},
		{twenty, []numbered{first, second}}, {twenty + "\x00\x01d", []numbered{first, second}},
		{head + "\x01\x00\x00\x00" + body, []numbered{first}}, {head + "\x09\x00\x00\x00" + body, []numbered{first, second}}, {head + "\x00\x00\x00\x00" + body, nil}, {head + "\xff\xff\xff\xff" + body, []numbered{first, second}}, {head + "\x00\x01\x00\x00" + body, []numbered{first, second}},
		{twenty[:19], []numbered{first}}, {twenty[:16], nil},
		{head + "\x02\x00\x00\x00\x01\x81\x00k\x01v\x00\x01d", nil}, {twenty[:17] + "\x00\x81\x00d", []numbered{first}}, {twenty[:17] + "\x03\x01d", []numbered{first}}, {twenty[:17] + "\x02\x01d\x01d", []numbered{first}}, {twenty[:17] + "\x00\x00", []numbered{first}},
		{twenty[:17] + "\x02\x01d\x01e", []numbered{first, {2, span("d", "e")}}},
	} {
		expectWalked(t, []byte(x.b), x.want)
	}
	expectWalked(t, nil, nil)
}

// P4.5: an operation beyond its limits ends the walk; numbers, counts and bytes beyond those of a batch do not.
func TestWalkBeyondABatch(t *testing.T) {
	for _, o := range []api.Op{put(of(api.MaxKey+1), "v"), put("k", of(api.MaxValue+1)), del(of(api.MaxKey + 1)), span("a", of(api.MaxKey+1)), span("b", "b")} {
		expectWalked(t, plainBatch(3, 3, []api.Op{del("d"), o, del("e")}), []numbered{{3, del("d")}})
	}
	big := []api.Op{put(of(api.MaxKey), of(api.MaxValue)), span(of(api.MaxKey-1), of(api.MaxKey))}
	expectWalked(t, plainBatch(3, 2, big), []numbered{{3, big[0]}, {4, big[1]}})
	expectWalked(t, plainBatch(api.MaxSeq, 2, big), []numbered{{api.MaxSeq, big[0]}, {api.MaxSeq + 1, big[1]}})
	expectWalked(t, plainBatch(maxWord, 3, manyOps(3)), []numbered{{maxWord, del("d")}, {0, del("d")}, {1, del("d")}})
	for _, ops := range [][]api.Op{manyOps(api.MaxOps), manyOps(api.MaxOps + 1), fullOps(0), fullOps(1)} {
		b := plainBatch(5, uint32(len(ops)), ops)
		expectWalked(t, b, plainWalk(b))
		if n := len(plainWalk(b)); n != len(ops) {
			t.Errorf("%d of %d operations", n, len(ops))
		}
	}
}

// P4.5: left early, ranged over again, and one range within another.
func TestWalkAgain(t *testing.T) {
	walk := Walk([]byte(twenty))
	for range 3 {
		n := 0
		for seq, o := range walk {
			if n++; seq != 1 || o != put("k", "v") {
				t.Errorf("%d %v", seq, o)
			}
			break
		}
		if n != 1 {
			t.Errorf("%d ahead of the break", n)
		}
	}
	for range 2 {
		var got []uint64
		for outer := range walk {
			for inner := range walk {
				got = append(got, 10*outer+inner)
			}
		}
		if !slices.Equal(got, []uint64{11, 12, 21, 22}) {
			t.Errorf("one within another: %v", got)
		}
	}
}

// P4.5: the bytes that b has when Walk is called.
func TestWalkKeepsTheBytes(t *testing.T) {
	want := []numbered{{1, put("k", "v")}, {2, del("d")}}
	b := append(make([]byte, 0, 40), twenty...)
	walk := Walk(b)
	for round := range 2 {
		var got []numbered
		for seq, o := range walk {
			got = append(got, numbered{seq, o})
			spoil(b)
		}
		if !slices.Equal(got, want) {
			t.Errorf("round %d: %v", round, got)
		}
	}
	b = []byte(twenty)
	walk = Walk(b)
	spoil(b)
	for seq, o := range walk {
		if seq != 1 || o != put("k", "v") {
			t.Errorf("%d %v", seq, o)
		}
		break
	}
}

// Rules 4 and 8: nothing is written, and nothing behind the length is read.
func TestWalkWithinTheLength(t *testing.T) {
	b := []byte(twenty)
	expectWalked(t, b[:19], []numbered{{1, put("k", "v")}})
	expectWalked(t, b[:17], []numbered{{1, put("k", "v")}})
	expectWalked(t, b[:11], nil)
	if string(b) != twenty {
		t.Errorf("the bytes have changed: %x", b)
	}
}

// P4.9: of a batch Walk tells what Decode tells.
func TestWalkTellsWhatDecodeTells(t *testing.T) {
	for _, ops := range [][]api.Op{nil, {put("k", "v"), del("d"), span("a", "b")}, manyOps(api.MaxOps), fullOps(0)} {
		b := mustEncode(t, 40, ops)
		seq, decoded, _ := Decode(b)
		var want []numbered
		for i, o := range decoded {
			want = append(want, numbered{seq + uint64(i), o})
		}
		if len(want) != len(ops) {
			t.Fatalf("%d of %d operations", len(want), len(ops))
		}
		expectWalked(t, b, want)
	}
}
