package block

import (
	"encoding/binary"
	"encoding/hex"
	"slices"
	"strings"
	"testing"

	"moraine/api"
)

// What the chapter says, word by word and without the package's own functions: the tests hold the package against it.

const maxWord = 1<<64 - 1

// of makes a text of so many bytes.
func of(size int) string { return strings.Repeat("k", size) }

func at(key string, seq uint64, kind int) api.IKey { return api.IKey{Key: key, Seq: seq, Kind: kind} }

func put(key string, seq uint64) api.IKey { return at(key, seq, api.KindPut) }

// bytesOf reads a text of hexadecimal digits and blanks.
func bytesOf(t *testing.T, s string) []byte {
	t.Helper()
	b, err := hex.DecodeString(strings.ReplaceAll(s, " ", ""))
	if err != nil {
		t.Fatal(err)
	}
	return b
}

func plainKeyBytes(k api.IKey) string {
	packed := make([]byte, 8)
	binary.LittleEndian.PutUint64(packed, k.Seq*256+uint64(k.Kind))
	return k.Key + string(packed)
}

func plainIsKind(kind int) bool { return kind == 0 || kind == 1 || kind == 2 || kind == 255 }

func plainIsKey(k api.IKey) bool {
	return len(k.Key) > 0 && len(k.Key) <= 1024 && k.Seq < 1<<56 && plainIsKind(k.Kind)
}

func plainKey(s string) (api.IKey, bool) {
	if len(s) < 9 || len(s) > 1032 {
		return api.IKey{}, false
	}
	n := len(s) - 8
	packed := binary.LittleEndian.Uint64([]byte(s[n:]))
	k := at(s[:n], packed/256, int(packed%256))
	return k, plainIsKind(k.Kind)
}

// plainBelow tells whether one key is ahead of another.
func plainBelow(a, b api.IKey) bool {
	switch {
	case a.Key != b.Key:
		return a.Key < b.Key
	case a.Seq != b.Seq:
		return a.Seq > b.Seq
	}
	return a.Kind > b.Kind
}

func plainShared(a, b string) int {
	n := 0
	for n < len(a) && n < len(b) && a[n] == b[n] {
		n++
	}
	return n
}

// written is an entry with how it is written: how many bytes of its key are shared, and whether the block tells of its place.
type written struct {
	entry
	shared    int
	isRestart bool
}

// laid tells a block as its entries are written.
func laid(l []written) []byte {
	var b, places []byte
	ahead, count := "", uint32(0)
	for _, x := range l {
		if x.isRestart {
			places = binary.LittleEndian.AppendUint32(places, uint32(len(b)))
			count++
		}
		key := plainKeyBytes(x.key)
		if x.shared > plainShared(ahead, key) {
			panic("a key that does not share so much")
		}
		b = binary.AppendUvarint(b, uint64(x.shared))
		b = binary.AppendUvarint(b, uint64(len(key)-x.shared))
		b = binary.AppendUvarint(b, uint64(len(x.value)))
		b = append(b, key[x.shared:]...)
		b = append(b, x.value...)
		ahead = key
	}
	return binary.LittleEndian.AppendUint32(append(b, places...), count)
}

// builtAs tells how a builder writes entries.
func builtAs(l []entry, restart int) []written {
	var out []written
	for i, x := range l {
		w := written{entry: x, isRestart: i%restart == 0}
		if !w.isRestart {
			w.shared = plainShared(plainKeyBytes(l[i-1].key), plainKeyBytes(x.key))
		}
		out = append(out, w)
	}
	return out
}

func plainBytes(l []entry, restart int) []byte { return laid(builtAs(l, restart)) }

// plainNumber takes a varint from the beginning of bytes, in its only form.
func plainNumber(b []byte) (uint64, []byte, bool) {
	v, n := binary.Uvarint(b)
	if n <= 0 || len(binary.AppendUvarint(nil, v)) != n {
		return 0, nil, false
	}
	return v, b[n:], true
}

// plainEntry takes an entry from the beginning of bytes.
func plainEntry(b []byte, ahead string) (x written, left []byte, ok bool) {
	var sizes [3]uint64
	for i := range sizes {
		if sizes[i], b, ok = plainNumber(b); !ok {
			return written{}, nil, false
		}
	}
	here := uint64(len(b))
	if sizes[0] > uint64(len(ahead)) || sizes[1] > here || sizes[2] > here-sizes[1] || sizes[2] > 65536 {
		return written{}, nil, false
	}
	x.shared = int(sizes[0])
	x.key, ok = plainKey(ahead[:x.shared] + string(b[:sizes[1]]))
	x.value = string(b[sizes[1] : sizes[1]+sizes[2]])
	return x, b[sizes[1]+sizes[2]:], ok
}

// plainOpen tells the entries of a block.
func plainOpen(b []byte) ([]entry, bool) {
	if len(b) < 4 {
		return nil, false
	}
	count := uint64(binary.LittleEndian.Uint32(b[len(b)-4:]))
	if 4*count+4 > uint64(len(b)) {
		return nil, false
	}
	begin := len(b) - 4 - 4*int(count)
	var told []int
	for i := range int(count) {
		told = append(told, int(binary.LittleEndian.Uint32(b[begin+4*i:])))
	}
	var l []entry
	var free []int
	for left := b[:begin]; len(left) > 0; {
		ahead := ""
		if len(l) > 0 {
			ahead = plainKeyBytes(l[len(l)-1].key)
		}
		x, next, ok := plainEntry(left, ahead)
		if !ok || len(l) > 0 && !plainBelow(l[len(l)-1].key, x.key) {
			return nil, false
		}
		if x.shared == 0 {
			free = append(free, begin-len(left))
		}
		l, left = append(l, x.entry), next
	}
	return l, plainPlaces(told, free)
}

// plainPlaces tells whether a block may tell of these places, if entries that share nothing have those.
func plainPlaces(told, free []int) bool {
	if len(free) == 0 {
		return len(told) == 0
	}
	for i, place := range told {
		if !slices.Contains(free, place) || i > 0 && place <= told[i-1] {
			return false
		}
	}
	return len(told) > 0 && told[0] == 0
}

// plainCursor stands at an entry by its place from 0 on, at -1 ahead, at the entries' count behind.
type plainCursor struct {
	l  []entry
	at int
}

func (p *plainCursor) first() {
	p.at = 0
}

func (p *plainCursor) last() {
	p.at = len(p.l) - 1
}

func (p *plainCursor) seek(k api.IKey) {
	p.at = 0
	for p.at < len(p.l) && plainBelow(p.l[p.at].key, k) {
		p.at++
	}
}

func (p *plainCursor) next() {
	if p.at < len(p.l) {
		p.at++
	}
}

func (p *plainCursor) prev() {
	if p.at >= 0 {
		p.at--
	}
}

func (p *plainCursor) here() (entry, bool) {
	if p.at < 0 || p.at >= len(p.l) {
		return entry{}, false
	}
	return p.l[p.at], true
}

// builder makes one with entries.
func builder(t *testing.T, restart int, l []entry) *Builder {
	t.Helper()
	b, e := NewBuilder(restart)
	if b == nil || e != api.OK {
		t.Fatalf("NewBuilder(%d): error %d", restart, int(e))
	}
	for _, x := range l {
		add(t, b, x.key, x.value, api.OK)
	}
	return b
}

func add(t *testing.T, b *Builder, k api.IKey, value string, want api.Errno) {
	t.Helper()
	if e := b.Add(k, value); e != want {
		t.Errorf("Add(%.40v, %d bytes): error %d, want %d", k, len(value), int(e), int(want))
	}
}

// isBuilt holds all that a builder tells against its entries.
func isBuilt(t *testing.T, b *Builder, restart int, l []entry) {
	t.Helper()
	want := plainBytes(l, restart)
	if got := b.Bytes(); string(got) != string(want) {
		t.Errorf("Bytes of %d entries, restart %d: %.300x, want %.300x", len(l), restart, got, want)
	}
	if b.Len() != len(l) || b.Size() != len(want) {
		t.Errorf("Len %d, Size %d, want %d, %d", b.Len(), b.Size(), len(l), len(want))
	}
}

// told tells a cursor's entries, from the first one on.
func told(c *Cursor) []entry {
	var l []entry
	for ok := c.First(); ok; ok = c.Next() {
		k, value, _ := c.Here()
		l = append(l, entry{k, value})
	}
	return l
}

// opens asks for a block with just these entries.
func opens(t *testing.T, what string, b []byte, want []entry) {
	t.Helper()
	c, e := Open(b)
	if c == nil || e != api.OK {
		t.Errorf("%s: Open(%.200x): error %d", what, b, int(e))
		return
	}
	if l := told(c); c.Len() != len(want) || !slices.Equal(l, want) {
		t.Errorf("%s: Open(%.200x): Len %d, %d entries, want %d: %.200v", what, b, c.Len(), len(l), len(want), l)
	}
}

// isNone asks for no block.
func isNone(t *testing.T, what string, b []byte) {
	t.Helper()
	if c, e := Open(b); c != nil || e != api.ErrBlock {
		t.Errorf("%s: Open(%.200x): error %d, want %d", what, b, int(e), int(api.ErrBlock))
	}
}
