package journal

import (
	"bytes"
	"math"
	"math/rand"
	"testing"

	"moraine/api"
)

func newWriter(t *testing.T, block, size int) *Writer {
	t.Helper()
	w, e := NewWriter(block, size)
	if w == nil || e != api.OK {
		t.Fatalf("NewWriter(%d, %d) = %v, error %d", block, size, w, int(e))
	}
	return w
}

// expectAdd has a record added, and holds its bytes, Cost ahead of it and Size behind it against the plain ones.
func expectAdd(t *testing.T, w *Writer, block int, record []byte) []byte {
	t.Helper()
	size := w.Size()
	want := plainAdd(block, size, record)
	if cost := w.Cost(len(record)); cost != len(want) {
		t.Errorf("block %d, size %d: Cost(%d) = %d, want %d", block, size, len(record), cost, len(want))
	}
	if w.Size() != size {
		t.Errorf("block %d: Cost changed Size from %d to %d", block, size, w.Size())
	}
	got, e := w.Add(record)
	if e != api.OK || !bytes.Equal(got, want) {
		t.Errorf("block %d, size %d: Add of %d bytes: %d bytes, error %d; want %d bytes", block, size, len(record), len(got), int(e), len(want))
	}
	if w.Size() != size+len(want) {
		t.Errorf("block %d: Size = %d behind %d and %d more", block, w.Size(), size, len(want))
	}
	return got
}

// P7.1: which blocks and sizes a writer may have.
func TestNewWriter(t *testing.T) {
	for _, c := range []struct {
		block, size int
		want        api.Errno
	}{
		{api.MinBlock, 0, api.OK}, {api.MaxBlock, 0, api.OK}, {33, 1, api.OK}, {1000, 999, api.OK}, {32, 32, api.OK}, {32, 1 << 40, api.OK}, {32, math.MaxInt, api.OK},
		{api.MinBlock - 1, 0, api.ErrArg}, {api.MaxBlock + 1, 0, api.ErrArg}, {0, 0, api.ErrArg}, {1, 0, api.ErrArg}, {-32, 0, api.ErrArg}, {math.MaxInt, 0, api.ErrArg}, {math.MinInt, 0, api.ErrArg},
		{32, -1, api.ErrArg}, {api.MaxBlock, -1, api.ErrArg}, {32, -32, api.ErrArg}, {32, math.MinInt, api.ErrArg}, {31, -1, api.ErrArg},
	} {
		w, e := NewWriter(c.block, c.size)
		if e != c.want || (w != nil) != (c.want == api.OK) {
			t.Errorf("NewWriter(%d, %d) = %v, error %d; want error %d", c.block, c.size, w, int(e), int(c.want))
		}
		if e == api.OK && w.Size() != c.size {
			t.Errorf("NewWriter(%d, %d): Size = %d", c.block, c.size, w.Size())
		}
	}
}

// The chapter's first example.
func TestFirstExample(t *testing.T) {
	w := newWriter(t, 32, 0)
	abc := expectAdd(t, w, 32, []byte("abc"))
	if len(abc) != 10 || string(abc[4:]) != "\x03\x00\x01abc" {
		t.Errorf("% x", abc)
	}
	if cost := w.Cost(20); cost != 34 {
		t.Errorf("Cost(20) = %d", cost)
	}
	b := expectAdd(t, w, 32, some(20))
	if w.Size() != 44 || string(b[4:7]) != "\x0f\x00\x02" || string(b[26:29]) != "\x05\x00\x04" {
		t.Errorf("Size = %d, % x", w.Size(), b)
	}
}

// The chapter's second example.
func TestSecondExample(t *testing.T) {
	b := expectAdd(t, newWriter(t, 32, 30), 32, nil)
	if len(b) != 9 || string(b[:2]) != "\x00\x00" || string(b[6:]) != "\x00\x00\x01" {
		t.Errorf("% x", b)
	}
	b = expectAdd(t, newWriter(t, 32, 25), 32, []byte("ab"))
	if len(b) != 16 || string(b[4:7]) != "\x00\x00\x02" || string(b[11:]) != "\x02\x00\x04ab" {
		t.Errorf("% x", b)
	}
}

// P7.1: at each place of a block: no bytes, what just goes into the rest, one less and one more, and what fills some blocks, one less and one more.
func TestAddAtEveryPlace(t *testing.T) {
	for _, block := range []int{32, 33, 64, 100} {
		for place := range 2*block + 1 {
			left := block - place%block
			if left < 7 {
				left = block
			}
			lengths := []int{0, 1, 2, 7, block}
			for blocks := range 4 {
				full := left - 7 + blocks*(block-7)
				lengths = append(lengths, full-1, full, full+1)
			}
			for _, n := range lengths {
				if n >= 0 {
					expectAdd(t, newWriter(t, block, place), block, some(n))
				}
			}
		}
	}
}

// P7.1: the same about the end of the greatest block, whose pieces' lengths take two bytes.
func TestAddInGreatBlocks(t *testing.T) {
	for _, block := range []int{api.MaxBlock, api.MaxBlock - 1, 300, 263, 262} {
		for _, left := range []int{1, 6, 7, 8, 9, 262, block - 1, block} {
			for _, n := range []int{0, 1, 2, 255, 256, left - 8, left - 7, left - 6, block - 8, block - 7, block - 6, left + block} {
				if n >= 0 && left <= block {
					expectAdd(t, newWriter(t, block, 3*block-left), block, some(n))
				}
			}
		}
	}
}

// P7.1: MaxRecord bytes, and one more, which changes nothing.
func TestGreatestRecord(t *testing.T) {
	greatest := some(api.MaxRecord)
	for _, c := range []struct{ block, size int }{{32, 0}, {32, 25}, {32, 31}, {1000, 17}, {api.MaxBlock, 0}, {api.MaxBlock, 5}} {
		w := newWriter(t, c.block, c.size)
		b, e := w.Add(append(greatest, 1))
		if len(b) != 0 || e != api.ErrBig || w.Size() != c.size {
			t.Errorf("block %d: one byte more: %d bytes, error %d, Size %d", c.block, len(b), int(e), w.Size())
		}
		expectAdd(t, w, c.block, greatest)
		expectAdd(t, w, c.block, []byte("behind"))
	}
}

// P7.1: Cost of lengths that no record may have.
func TestCostOfNone(t *testing.T) {
	for _, size := range []int{0, 5, 25, 26, 31} {
		w := newWriter(t, 32, size)
		for _, n := range []int{-1, -7, math.MinInt, api.MaxRecord + 1, math.MaxInt} {
			if cost := w.Cost(n); cost != 0 {
				t.Errorf("size %d: Cost(%d) = %d", size, n, cost)
			}
		}
		for _, n := range []int{0, api.MaxRecord} {
			if cost, want := w.Cost(n), len(plainAdd(32, size, make([]byte, n))); cost != want {
				t.Errorf("size %d: Cost(%d) = %d, want %d", size, n, cost, want)
			}
		}
	}
}

// P7.1: what is added hangs on the place in the block alone, however great the size is.
func TestGreatSizes(t *testing.T) {
	for _, size := range []int{1<<31 - 1, 1 << 31, 1 << 32, 1<<32 + 27, 1 << 53, math.MaxInt - 1000} {
		w := newWriter(t, 33, size)
		expectAdd(t, w, 33, some(40))
		expectAdd(t, w, 33, nil)
	}
	w := newWriter(t, 32, math.MaxInt)
	for size := 31; size < 200; {
		want := plainAdd(32, size, some(20))
		if got, e := w.Add(some(20)); e != api.OK || !bytes.Equal(got, want) {
			t.Errorf("behind the greatest size: % x, error %d; want % x", got, int(e), want)
		}
		size += len(want)
	}
	if w.Size() != math.MaxInt {
		t.Errorf("behind the greatest size: Size = %d", w.Size())
	}
}

// Rule 1: a writer that is nil, or that NewWriter did not make.
func TestWritersThatAreNone(t *testing.T) {
	for _, w := range []*Writer{nil, {}} {
		for _, record := range [][]byte{nil, []byte("abc"), make([]byte, api.MaxRecord+1)} {
			if b, e := w.Add(record); len(b) != 0 || e != api.ErrNil {
				t.Errorf("Add: % x, error %d", b, int(e))
			}
		}
		if w.Size() != 0 || w.Cost(0) != 0 || w.Cost(20) != 0 || w.Cost(-1) != 0 {
			t.Error("a writer that is none tells sizes")
		}
	}
}

// P7.6: a writer that is made with another one's size adds what that one would.
func TestWriterGoesOn(t *testing.T) {
	chance := rand.New(rand.NewSource(76))
	for range 200 {
		block := 32 + chance.Intn(60)
		w := newWriter(t, block, chance.Intn(3*block))
		for range 20 {
			o := newWriter(t, block, w.Size())
			record := randomBytes(chance, chance.Intn(3*block))
			if w.Cost(len(record)) != o.Cost(len(record)) {
				t.Fatalf("block %d, size %d: Cost %d, and %d of the other one", block, w.Size(), w.Cost(len(record)), o.Cost(len(record)))
			}
			a, _ := w.Add(record)
			b, _ := o.Add(record)
			if !bytes.Equal(a, b) || w.Size() != o.Size() {
				t.Fatalf("block %d: % x, and % x of the other one", block, a, b)
			}
		}
	}
}

// Rules 4 and 8: records stay as they were, with their spare room, and are not kept; what is told is new memory.
func TestAddSharesNothing(t *testing.T) {
	w := newWriter(t, 32, 0)
	room := bytes.Repeat([]byte{9}, 80)
	record := room[10:50]
	first, _ := w.Add(record)
	second, _ := w.Add(record[:0])
	if !bytes.Equal(room, bytes.Repeat([]byte{9}, 80)) {
		t.Errorf("the record was changed: % x", room)
	}
	clear(room)
	clear(second[:cap(second)])
	if !bytes.Equal(first, plainAdd(32, 0, bytes.Repeat([]byte{9}, 40))) {
		t.Errorf("what was told changed: % x", first)
	}
	clear(first[:cap(first)])
	expectAdd(t, w, 32, []byte("abc"))
}
