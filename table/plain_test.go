package table

import (
	"encoding/binary"
	"fmt"
	"hash/crc32"
	"math/bits"
	"slices"
	"strings"
	"testing"

	"moraine/api"
	"moraine/block"
)

// What the chapter says, word by word and without the package's own functions: the tests hold the package against it. Of the layers below only block.Open is asked, for reading.

// of makes a text of so many bytes.
func of(size int) string { return strings.Repeat("k", size) }

// brief tells the beginning of anything.
func brief(x any) string {
	s := fmt.Sprintf("%+v", x)
	return s[:min(len(s), 200)]
}

func put(key string, seq uint64, value string) api.Entry {
	return api.Entry{Key: key, Seq: seq, Kind: api.KindPut, Value: value}
}

func del(key string, seq uint64) api.Entry { return api.Entry{Key: key, Seq: seq} }

func at(key string, seq uint64, kind int) api.IKey { return api.IKey{Key: key, Seq: seq, Kind: kind} }

func plainKeyOf(e api.Entry) api.IKey { return at(e.Key, e.Seq, e.Kind) }

// plainBelow tells whether one key is ahead of another.
func plainBelow(a, b api.IKey) bool {
	switch {
	case a.Key != b.Key:
		return a.Key < b.Key
	case a.Seq != b.Seq:
		return a.Seq > b.Seq
	}
	return a.Kind > b.Kind
}

// record is what a block has: an internal key with a value.
type record struct {
	key   api.IKey
	value string
}

func recordOf(e api.Entry) record { return record{plainKeyOf(e), e.Value} }

func plainKeyBytes(k api.IKey) string {
	return k.Key + string(binary.LittleEndian.AppendUint64(nil, k.Seq*256+uint64(k.Kind)))
}

// plainBlock tells a block's bytes.
func plainBlock(l []record, restart int) []byte {
	var b, places []byte
	ahead := ""
	for i, x := range l {
		key, shared := plainKeyBytes(x.key), 0
		if i%restart == 0 {
			places = binary.LittleEndian.AppendUint32(places, uint32(len(b)))
		} else {
			for shared < min(len(ahead), len(key)) && ahead[shared] == key[shared] {
				shared++
			}
		}
		b = binary.AppendUvarint(b, uint64(shared))
		b = binary.AppendUvarint(b, uint64(len(key)-shared))
		b = binary.AppendUvarint(b, uint64(len(x.value)))
		b = append(append(b, key[shared:]...), x.value...)
		ahead = key
	}
	return binary.LittleEndian.AppendUint32(append(b, places...), uint32(len(places)/4))
}

func plainTrailer(b []byte) []byte {
	sum := crc32.Checksum(b, crc32.MakeTable(crc32.Castagnoli))
	return binary.LittleEndian.AppendUint32(nil, bits.RotateLeft32(sum, -15)+0xa282ead8)
}

func plainHash(s string) uint32 {
	const m = 0xc6a4a793
	h := uint32(0xbc9f1d34) ^ uint32(len(s))*m
	for ; len(s) >= 4; s = s[4:] {
		h = (h + binary.LittleEndian.Uint32([]byte(s))) * m
		h ^= h >> 16
	}
	if s != "" {
		h = (h + binary.LittleEndian.Uint32([]byte(s + "\x00\x00\x00")[:4])) * m
		h ^= h >> 24
	}
	return h
}

// plainBits tells the bits of a key in a filter.
func plainBits(key string, n, probes int) []int {
	h := plainHash(key)
	d := bits.RotateLeft32(h, -17)
	var l []int
	for range probes {
		l = append(l, int(uint64(h)%uint64(n)))
		h += d
	}
	return l
}

// plainFilter tells the filter of the entries' keys.
func plainFilter(l []api.Entry, perKey int) []byte {
	if perKey == 0 {
		return nil
	}
	var keys []string
	for _, e := range l {
		keys = append(keys, e.Key)
	}
	keys = slices.Compact(keys)
	b := make([]byte, (max(len(keys)*perKey, 64)+7)/8)
	probes := min(max(perKey*69/100, 1), 30)
	for _, key := range keys {
		for _, i := range plainBits(key, 8*len(b), probes) {
			b[i/8] |= 1 << (i % 8)
		}
	}
	return append(b, byte(probes))
}

func plainMay(filter []byte, key string) bool {
	if len(filter) < 2 || filter[len(filter)-1] < 1 || filter[len(filter)-1] > 30 {
		return true
	}
	for _, i := range plainBits(key, 8*(len(filter)-1), int(filter[len(filter)-1])) {
		if filter[i/8]>>(i%8)&1 == 0 {
			return false
		}
	}
	return true
}

// plainBetween tells, of the texts from a up to b, the least one of the shortest: each length is tried with the least text that is not below a.
func plainBetween(a, b string) string {
	for n := 1; n < len(a); n++ {
		s := []byte(a[:n])
		i := n - 1
		for i >= 0 && s[i] == 255 {
			s[i] = 0
			i--
		}
		if i < 0 {
			continue
		}
		s[i]++
		if string(s) < b {
			return string(s)
		}
	}
	return a
}

// plainPages parts entries into data blocks.
func plainPages(s api.Shape, l []api.Entry) [][]record {
	var pages [][]record
	var page []record
	for _, e := range l {
		page = append(page, recordOf(e))
		if len(plainBlock(page, s.Restart)) >= s.Page {
			pages = append(pages, page)
			page = nil
		}
	}
	if len(page) > 0 {
		pages = append(pages, page)
	}
	return pages
}

// plainIndexKey tells the key of the page i in the index.
func plainIndexKey(pages [][]record, i int) api.IKey {
	last := pages[i][len(pages[i])-1].key
	if i == len(pages)-1 {
		return last
	}
	if s := plainBetween(last.Key, pages[i+1][0].key.Key); s > last.Key {
		return at(s, 1<<56-1, 255)
	}
	return last
}

// handleValue tells a place and a length as the index has them.
func handleValue(place, size uint64) string {
	return string(binary.AppendUvarint(binary.AppendUvarint(nil, place), size))
}

// parts are a file's parts as bytes.
type parts struct {
	data                 [][]byte
	filter, tombs, index []byte
}

// plainParts tells the parts of the file of these entries and tombs.
func plainParts(s api.Shape, l []api.Entry, tombs []api.Tomb) parts {
	p := parts{filter: plainFilter(l, s.Bits)}
	pages := plainPages(s, l)
	var index []record
	place := 0
	for i, page := range pages {
		b := plainBlock(page, s.Restart)
		p.data = append(p.data, b)
		index = append(index, record{plainIndexKey(pages, i), handleValue(uint64(place), uint64(len(b)))})
		place += len(b) + 4
	}
	p.index = plainBlock(index, 1)
	var ranges []record
	for _, x := range plainTombs(tombs) {
		ranges = append(ranges, record{at(x.Begin, x.Seq, 2), x.End})
	}
	p.tombs = plainBlock(ranges, 1)
	return p
}

// plainTombs tells tombs by Begin, of one Begin greater numbers first.
func plainTombs(l []api.Tomb) []api.Tomb {
	out := slices.Clone(l)
	slices.SortFunc(out, func(a, b api.Tomb) int {
		if plainBelow(at(a.Begin, a.Seq, 2), at(b.Begin, b.Seq, 2)) {
			return -1
		}
		return 1
	})
	return out
}

// footerOf tells a footer of six numbers.
func footerOf(numbers ...uint64) []byte {
	var b []byte
	for _, v := range numbers {
		b = binary.LittleEndian.AppendUint64(b, v)
	}
	return append(b, "moraine1"...)
}

// laid tells a file of parts, with all sums and places right.
func laid(p parts) []byte {
	var file []byte
	var numbers []uint64
	for _, b := range p.data {
		file = append(append(file, b...), plainTrailer(b)...)
	}
	for _, b := range [][]byte{p.filter, p.tombs, p.index} {
		numbers = append(numbers, uint64(len(file)), uint64(len(b)))
		file = append(append(file, b...), plainTrailer(b)...)
	}
	return append(file, footerOf(numbers...)...)
}

// plainSpan tells the file as a version knows it.
func plainSpan(l []api.Entry, tombs []api.Tomb, size int) api.File {
	f := api.File{Size: size}
	var least, limit []string
	var seqs []uint64
	for _, e := range l {
		least, limit, seqs = append(least, e.Key), append(limit, e.Key+"\x00"), append(seqs, e.Seq)
	}
	for _, x := range tombs {
		least, limit, seqs = append(least, x.Begin), append(limit, x.End), append(seqs, x.Seq)
	}
	f.Least, f.Limit = slices.Min(least), slices.Max(limit)
	f.Low, f.High = slices.Min(seqs), slices.Max(seqs)
	return f
}

// plainFile tells what Finish tells.
func plainFile(s api.Shape, l []api.Entry, tombs []api.Tomb) ([]byte, api.File) {
	file := laid(plainParts(s, l, tombs))
	return file, plainSpan(l, tombs, len(file))
}

// plainTable is what a file's bytes tell.
type plainTable struct {
	keys   []api.IKey
	blocks [][]byte // with their trailers
	filter []byte
	tombs  []api.Tomb
}

// records tells what a block has.
func records(b []byte) ([]record, bool) {
	c, e := block.Open(b)
	if e != api.OK {
		return nil, false
	}
	var l []record
	for ok := c.First(); ok; ok = c.Next() {
		k, value, _ := c.Here()
		l = append(l, record{k, value})
	}
	return l, true
}

// plainPart tells the part of a file with that place and length, and the place behind its trailer.
func plainPart(file []byte, place, size uint64) (part []byte, next uint64, ok bool) {
	whole := uint64(len(file))
	if place > whole || size > whole-place || whole-place-size < 4 {
		return nil, 0, false
	}
	return file[place : place+size], place + size + 4, true
}

func plainSum(file []byte, next uint64, part []byte) bool {
	return string(file[next-4:next]) == string(plainTrailer(part))
}

// plainOpen tells what a file has; false: it is none.
func plainOpen(file []byte) (plainTable, bool) {
	var t plainTable
	if len(file) < 56 || string(file[len(file)-8:]) != "moraine1" {
		return t, false
	}
	foot := file[len(file)-56:]
	var got [3][]byte
	next := binary.LittleEndian.Uint64(foot)
	filterAt := next
	for i := range got {
		place, size := binary.LittleEndian.Uint64(foot[16*i:]), binary.LittleEndian.Uint64(foot[16*i+8:])
		part, behind, ok := plainPart(file, place, size)
		if place != next || !ok || !plainSum(file, behind, part) {
			return t, false
		}
		got[i], next = part, behind
	}
	if next != uint64(len(file)-56) {
		return t, false
	}
	t.filter = got[0]
	return t, t.plainTakeTombs(got[1]) && t.plainTakeIndex(file, filterAt, got[2])
}

func (t *plainTable) plainTakeTombs(b []byte) bool {
	l, ok := records(b)
	for _, x := range l {
		if x.key.Kind != 2 || x.key.Key >= x.value || len(x.value) > 1025 {
			return false
		}
		t.tombs = append(t.tombs, api.Tomb{Begin: x.key.Key, End: x.value, Seq: x.key.Seq})
	}
	return ok
}

func (t *plainTable) plainTakeIndex(file []byte, filterAt uint64, b []byte) bool {
	l, ok := records(b)
	next := uint64(0)
	for _, x := range l {
		place, n := binary.Uvarint([]byte(x.value))
		if n <= 0 {
			return false
		}
		size, m := binary.Uvarint([]byte(x.value[n:]))
		// No other form of the numbers, and nothing behind them.
		if m <= 0 || handleValue(place, size) != x.value {
			return false
		}
		part, behind, ok := plainPart(file, place, size)
		if !ok || place != next {
			return false
		}
		t.keys, t.blocks = append(t.keys, x.key), append(t.blocks, file[place:behind])
		_, next = part, behind
	}
	return ok && next == filterAt
}

// plainFind tells the first block whose key is not below k.
func (t *plainTable) plainFind(k api.IKey) int {
	for i, key := range t.keys {
		if !plainBelow(key, k) {
			return i
		}
	}
	return len(t.keys)
}

// plainGet tells what Get tells.
func (t *plainTable) plainGet(key string, seq uint64) (api.Entry, bool, api.Errno) {
	i := t.plainFind(at(key, min(seq, 1<<56-1), 255))
	if !plainMay(t.filter, key) || i == len(t.blocks) {
		return api.Entry{}, false, api.OK
	}
	b := t.blocks[i]
	part := b[:len(b)-4]
	l, ok := records(part)
	if !ok || string(b[len(part):]) != string(plainTrailer(part)) {
		return api.Entry{}, false, api.ErrTable
	}
	for _, x := range l {
		if x.key.Key == key && x.key.Seq <= seq {
			return api.Entry{Key: key, Seq: x.key.Seq, Kind: x.key.Kind, Value: x.value}, true, api.OK
		}
	}
	return api.Entry{}, false, api.OK
}

// plainNewest tells, of entries in any order, what of a key is seen at a number.
func plainNewest(l []api.Entry, key string, seq uint64) (api.Entry, bool) {
	var newest api.Entry
	found := false
	for _, e := range l {
		if e.Key == key && e.Seq <= seq && (!found || plainBelow(plainKeyOf(e), plainKeyOf(newest))) {
			newest, found = e, true
		}
	}
	return newest, found
}

// builder makes one with entries and tombs.
func builder(t *testing.T, s api.Shape, l []api.Entry, tombs []api.Tomb) *Builder {
	t.Helper()
	b, e := NewBuilder(s)
	if b == nil || e != api.OK {
		t.Fatalf("NewBuilder(%v): error %d", s, int(e))
	}
	for _, x := range l {
		add(t, b, x, api.OK)
	}
	for _, x := range tombs {
		addTomb(t, b, x, api.OK)
	}
	return b
}

func add(t *testing.T, b *Builder, x api.Entry, want api.Errno) {
	t.Helper()
	if e := b.Add(x); e != want {
		t.Errorf("Add(%s): error %d, want %d", brief(x), int(e), int(want))
	}
}

func addTomb(t *testing.T, b *Builder, x api.Tomb, want api.Errno) {
	t.Helper()
	if e := b.AddTomb(x); e != want {
		t.Errorf("AddTomb(%s): error %d, want %d", brief(x), int(e), int(want))
	}
}

func hasLen(t *testing.T, b *Builder, entries, tombs int) {
	t.Helper()
	if n, m := b.Len(); n != entries || m != tombs {
		t.Errorf("Len: %d, %d, want %d, %d", n, m, entries, tombs)
	}
}

// isFinished holds Finish against the plain one, twice, and tells the file's bytes.
func isFinished(t *testing.T, b *Builder, s api.Shape, l []api.Entry, tombs []api.Tomb) []byte {
	t.Helper()
	want, span := plainFile(s, l, tombs)
	for range 2 {
		file, f, e := b.Finish()
		if e != api.OK || f != span || string(file) != string(want) {
			t.Fatalf("Finish, shape %v: error %d, %s, want %s, %d bytes %.300x, want %d bytes %.300x", s, int(e), brief(f), brief(span), len(file), file, len(want), want)
		}
		hasLen(t, b, len(l), len(tombs))
	}
	return want
}

// opened opens a file that is one.
func opened(t *testing.T, file []byte) *Table {
	t.Helper()
	x, e := Open(file)
	if x == nil || e != api.OK {
		t.Fatalf("Open(%d bytes %.300x): error %d", len(file), file, int(e))
	}
	return x
}

// isNone asks for no table.
func isNone(t *testing.T, what string, file []byte) {
	t.Helper()
	if x, e := Open(file); x != nil || e != api.ErrTable {
		t.Errorf("%s: Open(%d bytes): error %d, want %d", what, len(file), int(e), int(api.ErrTable))
	}
}

// held holds Open, and all that the table tells of some keys, against the plain one.
func held(t *testing.T, what string, file []byte, keys ...api.IKey) bool {
	t.Helper()
	want, ok := plainOpen(file)
	if !ok {
		isNone(t, what, file)
		return false
	}
	x := opened(t, file)
	tells(t, what, x, want, keys)
	return true
}

func tells(t *testing.T, what string, x *Table, want plainTable, keys []api.IKey) {
	t.Helper()
	if x.Blocks() != len(want.blocks) || !slices.Equal(x.Tombs(), want.tombs) {
		t.Errorf("%s: %d blocks, want %d; tombs %s, want %s", what, x.Blocks(), len(want.blocks), brief(x.Tombs()), brief(want.tombs))
	}
	for i, b := range want.blocks {
		part := b[:len(b)-4]
		got, e := x.Block(i)
		if string(plainTrailer(part)) != string(b[len(part):]) {
			if e != api.ErrTable || len(got) != 0 {
				t.Errorf("%s: Block(%d) of another sum: error %d", what, i, int(e))
			}
		} else if e != api.OK || string(got) != string(part) {
			t.Errorf("%s: Block(%d): error %d, %.200x, want %.200x", what, i, int(e), got, part)
		}
	}
	for _, k := range append(keys, want.keys...) {
		if i := x.Find(k); i != want.plainFind(k) {
			t.Errorf("%s: Find(%s): %d, want %d", what, brief(k), i, want.plainFind(k))
		}
		if ok := x.May(k.Key); ok != plainMay(want.filter, k.Key) {
			t.Errorf("%s: May(%.60q): %t", what, k.Key, ok)
		}
		got, ok, e := x.Get(k.Key, k.Seq)
		entry, found, err := want.plainGet(k.Key, k.Seq)
		if got != entry || ok != found || e != err {
			t.Errorf("%s: Get(%.60q, %d): %s, %t, error %d, want %s, %t, %d", what, k.Key, k.Seq, brief(got), ok, int(e), brief(entry), found, int(err))
		}
	}
}
