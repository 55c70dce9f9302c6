package codec

import (
	"math"
	"math/rand"
	"strings"
	"testing"

	"moraine/api"
)

func expectAt(t *testing.T, r *Reader, at, left int, e api.Errno) {
	t.Helper()
	if r.At() != at || r.Left() != left || r.Err() != e {
		t.Errorf("at %d, left %d, error %d; want %d, %d, %d", r.At(), r.Left(), r.Err(), at, left, e)
	}
}

// expectDeaf asks for everything of a reader that has its error: all is zero, nothing moves.
func expectDeaf(t *testing.T, r *Reader, at, left int, e api.Errno) {
	t.Helper()
	for range 2 {
		if r.Varint() != 0 || r.Number(math.MaxInt) != 0 || r.Number(-1) != 0 || r.Fixed32() != 0 || r.Fixed64() != 0 || r.Text(math.MaxInt) != "" || r.Text(-1) != "" {
			t.Error("something was read behind the first error")
		}
		expectAt(t, r, at, left, e)
	}
}

func TestReaderGoesFromThingToThing(t *testing.T) {
	b := PutVarint(nil, 300)
	b = PutFixed32(b, 1<<31)
	b = PutFixed64(b, 1<<63+5)
	b = PutText(b, "text")
	b = PutVarint(b, 9)
	b = PutText(b, "")
	r := NewReader(b)
	expectAt(t, r, 0, len(b), api.OK)
	if v := r.Varint(); v != 300 {
		t.Errorf("Varint = %d", v)
	}
	expectAt(t, r, 2, len(b)-2, api.OK)
	if v := r.Fixed32(); v != 1<<31 {
		t.Errorf("Fixed32 = %d", v)
	}
	expectAt(t, r, 6, len(b)-6, api.OK)
	if v := r.Fixed64(); v != 1<<63+5 {
		t.Errorf("Fixed64 = %d", v)
	}
	expectAt(t, r, 14, len(b)-14, api.OK)
	if s := r.Text(4); s != "text" {
		t.Errorf("Text = %q", s)
	}
	expectAt(t, r, 19, len(b)-19, api.OK)
	if v := r.Number(9); v != 9 {
		t.Errorf("Number = %d", v)
	}
	if s := r.Text(0); s != "" {
		t.Errorf("Text = %q", s)
	}
	expectAt(t, r, len(b), 0, api.OK)
	if v := r.Varint(); v != 0 {
		t.Errorf("Varint at the end = %d", v)
	}
	expectDeaf(t, r, len(b), 0, api.ErrShort)
}

func TestReaderOfTheDocument(t *testing.T) {
	r := NewReader([]byte("\x05\x02ab\x09"))
	if n, s := r.Number(9), r.Text(2); n != 5 || s != "ab" {
		t.Errorf("Number = %d, Text = %q", n, s)
	}
	expectAt(t, r, 4, 1, api.OK)
	if n := r.Number(8); n != 0 {
		t.Errorf("Number = %d", n)
	}
	expectDeaf(t, r, 4, 1, api.ErrBig)
}

func TestReaderKeepsItsFirstError(t *testing.T) {
	nine := strings.Repeat("\xff", 9)
	varint := func(r *Reader) bool { return r.Varint() == 0 }
	fixed32 := func(r *Reader) bool { return r.Fixed32() == 0 }
	fixed64 := func(r *Reader) bool { return r.Fixed64() == 0 }
	number := func(most int) func(r *Reader) bool { return func(r *Reader) bool { return r.Number(most) == 0 } }
	text := func(most int) func(r *Reader) bool { return func(r *Reader) bool { return r.Text(most) == "" } }
	for i, x := range []struct {
		b    string
		read func(r *Reader) bool
		e    api.Errno
	}{
		{"", varint, api.ErrShort},
		{"\x80\x80", varint, api.ErrShort},
		{"\x80\x00\x01", varint, api.ErrForm},
		{nine + "\x02\x01", varint, api.ErrForm},
		{"\x01\x02\x03", fixed32, api.ErrShort},
		{"\x01\x02\x03\x04\x05\x06\x07", fixed64, api.ErrShort},
		{"", number(9), api.ErrShort},
		{"\x80", number(9), api.ErrShort},
		{"\x80\x00", number(9), api.ErrForm},
		{"\x09\x01", number(8), api.ErrBig},
		{"\x01", number(0), api.ErrBig},
		{"\x00", number(-1), api.ErrBig},
		{"\x00", number(math.MinInt), api.ErrBig},
		{"\x09", number(math.MinInt), api.ErrBig},
		{nine + "\x01", number(-1), api.ErrBig},
		{"\x80\x80\x80\x80\x80\x80\x80\x80\x80\x01", number(math.MaxInt), api.ErrBig},
		{nine + "\x01", number(math.MaxInt), api.ErrBig},
		{"", text(9), api.ErrShort},
		{"\x80", text(9), api.ErrShort},
		{"\x80\x00", text(9), api.ErrForm},
		{"\x03ab", text(3), api.ErrShort},
		{"\x03ab", text(2), api.ErrBig},
		{"\x03abc", text(2), api.ErrBig},
		{"\x01a", text(0), api.ErrBig},
		{"\x00", text(-1), api.ErrBig},
		{"\x00", text(math.MinInt), api.ErrBig},
		{"\x02ab", text(-1), api.ErrBig},
		{"\xff\xff\xff\xff\xff\xff\xff\xff\x7fab", text(math.MaxInt), api.ErrShort},
		{nine + "\x01ab", text(math.MaxInt), api.ErrBig},
		{nine + "\x01ab", text(-1), api.ErrBig},
		// A length that can't be read is neither above most nor below it.
		{"", number(-1), api.ErrShort},
		{"\x80\x00", number(-1), api.ErrForm},
		{"", text(-1), api.ErrShort},
		{"\x80\x00", text(-1), api.ErrForm},
	} {
		r := NewReader([]byte("\x07" + x.b))
		if r.Varint() != 7 || !x.read(r) {
			t.Errorf("case %d: not zero", i)
		}
		expectAt(t, r, 1, len(x.b), x.e)
		expectDeaf(t, r, 1, len(x.b), x.e)
		if t.Failed() {
			t.Fatalf("case %d: %x", i, x.b)
		}
	}
}

func TestReaderUpToTheMost(t *testing.T) {
	r := NewReader([]byte("\x00\x08\xff\xff\xff\xff\xff\xff\xff\xff\x7f\x00\x02ab\x02cd"))
	if r.Number(0) != 0 || r.Number(8) != 8 || r.Number(math.MaxInt) != math.MaxInt {
		t.Error("a number that is not above most")
	}
	if r.Text(0) != "" || r.Text(2) != "ab" || r.Text(math.MaxInt) != "cd" {
		t.Error("a text that is not longer than most")
	}
	expectAt(t, r, 18, 0, api.OK)
}

func TestReaderOfNoBytes(t *testing.T) {
	for _, b := range [][]byte{nil, {}} {
		r := NewReader(b)
		expectAt(t, r, 0, 0, api.OK)
		if r.Fixed32() != 0 {
			t.Error("Fixed32 of nothing")
		}
		expectDeaf(t, r, 0, 0, api.ErrShort)
	}
}

// TestReaderHasItsOwnBytes: it reads what stood there at NewReader, whatever comes later.
func TestReaderHasItsOwnBytes(t *testing.T) {
	b := []byte("\x02ab\x05")
	r := NewReader(b)
	clear(b)
	if s, n := r.Text(9), r.Number(9); s != "ab" || n != 5 {
		t.Errorf("%q, %d", s, n)
	}
	if string(b) != "\x00\x00\x00\x00" {
		t.Errorf("the bytes that were handed in: %x", b)
	}
	expectAt(t, r, 4, 0, api.OK)
}

func TestReaderStopsAtTheLength(t *testing.T) {
	room := []byte("\x01\x02\x03\x04")
	r := NewReader(room[:3])
	expectAt(t, r, 0, 3, api.OK)
	if r.Fixed32() != 0 {
		t.Error("a byte behind the length was read")
	}
	expectAt(t, r, 0, 3, api.ErrShort)
}

// TestReadersThatNobodyMade: rule 1.
func TestReadersThatNobodyMade(t *testing.T) {
	for _, r := range []*Reader{nil, {}, new(Reader)} {
		expectDeaf(t, r, 0, 0, api.ErrNil)
	}
}

func TestReadersDoNotMeet(t *testing.T) {
	b := []byte("\x01\x02\x80\x00")
	broken, other := NewReader(b), NewReader(b)
	for range 3 {
		broken.Varint()
	}
	expectAt(t, broken, 2, 2, api.ErrForm)
	if other.Varint() != 1 || other.Varint() != 2 {
		t.Error("another reader of the same bytes")
	}
	expectAt(t, other, 2, 2, api.OK)
}

// plain is a reader made of the calls without state: what P1.5 says, word by word.
type plain struct {
	b  []byte
	at int
	e  api.Errno
}

func (p *plain) keep(next int, e api.Errno) bool {
	if e == api.OK {
		p.at = next
	}
	p.e = e
	return e == api.OK
}

func (p *plain) number(most int) int {
	v, next, e := Varint(p.b, p.at)
	if e == api.OK && (most < 0 || v > uint64(most)) {
		e = api.ErrBig
	}
	if p.keep(next, e) {
		return int(v)
	}
	return 0
}

func (p *plain) text(most int) string {
	n, _, e := Varint(p.b, p.at)
	s, next, whole := Text(p.b, p.at)
	if e == api.OK && (most < 0 || n > uint64(most)) {
		whole = api.ErrBig
	}
	if p.keep(next, whole) {
		return s
	}
	return ""
}

func TestReaderIsTheCallsOneBehindTheOther(t *testing.T) {
	chance := rand.New(rand.NewSource(3))
	pool := []byte{0, 1, 2, 3, 4, 0x7f, 0x80, 0x81, 0xff}
	bounds := []int{-1, 0, 1, 2, 3, 127, 128, 1 << 20, math.MaxInt}
	for range 20000 {
		b := make([]byte, chance.Intn(40))
		for i := range b {
			b[i] = pool[chance.Intn(len(pool))]
		}
		r, p := NewReader(b), &plain{b: b}
		for p.e == api.OK {
			most := bounds[chance.Intn(len(bounds))]
			same := false
			switch chance.Intn(5) {
			case 0:
				v, next, e := Varint(p.b, p.at)
				p.keep(next, e)
				same = r.Varint() == v
			case 1:
				v, next, e := Fixed32(p.b, p.at)
				p.keep(next, e)
				same = r.Fixed32() == v
			case 2:
				v, next, e := Fixed64(p.b, p.at)
				p.keep(next, e)
				same = r.Fixed64() == v
			case 3:
				same = r.Number(most) == p.number(most)
			case 4:
				same = r.Text(most) == p.text(most)
			}
			if !same || r.At() != p.at || r.Left() != len(b)-p.at || r.Err() != p.e {
				t.Fatalf("of %x: at %d, left %d, error %d; want at %d, error %d", b, r.At(), r.Left(), r.Err(), p.at, p.e)
			}
		}
	}
}
