package table

import (
	"bytes"
	"encoding/hex"
	"slices"
	"strconv"
	"testing"

	"moraine/api"
)

// firstFile is the file of the chapter's first example; like secondFile it was worked out apart from the program.
const firstFile = "00090161010100000000000078" + "0000000001000000" + "d87e350c" +
	"d8ea82a2" +
	"00000000" + "a67b113a" +
	"0009026101010000000000000015" + "0000000001000000" + "8ed0fc64" +
	"1900000000000000" + "0000000000000000" + "1d00000000000000" + "0400000000000000" + "2500000000000000" + "1600000000000000" + "6d6f7261696e6531"

// secondFile has two data blocks, a filter and a tomb.
const secondFile = "000c0161626364010300000000000076" + "0000000001000000" + "37628a9b" +
	"000c0061627a7a0002000000000000" + "0000000001000000" + "6c9e1dc5" +
	"800008585d00808006" + "2e086953" +
	"00090162020900000000000063" + "0000000001000000" + "20b88aca" +
	"000b02616264ffffffffffffffff0018" + "000c0261627a7a00020000000000001c17" + "000000001000000002000000" + "00d025c4" +
	"3700000000000000" + "0900000000000000" + "4400000000000000" + "1500000000000000" + "5d00000000000000" + "2d00000000000000" + "6d6f7261696e6531"

func secondEntries() []api.Entry { return []api.Entry{put("abcd", 3, "v"), del("abzz", 2)} }

func secondTombs() []api.Tomb { return []api.Tomb{{Begin: "b", End: "c", Seq: 9}} }

var secondShape = api.Shape{Page: 16, Restart: 1, Bits: 10}

// P13.2, example 1: bytes that were worked out apart from the program, and from the plain ones.
func TestFinishKnown(t *testing.T) {
	for _, x := range []struct {
		what  string
		shape api.Shape
		l     []api.Entry
		tombs []api.Tomb
		hex   string
		file  api.File
	}{
		{"example 1", small, []api.Entry{put("a", 1, "x")}, nil, firstFile, api.File{Size: 119, Least: "a", Limit: "a\x00", Low: 1, High: 1}},
		{"all parts", secondShape, secondEntries(), secondTombs(), secondFile, api.File{Size: 198, Least: "abcd", Limit: "c", Low: 2, High: 9}},
	} {
		file, f, e := builder(t, x.shape, x.l, x.tombs).Finish()
		if e != api.OK || f != x.file || hex.EncodeToString(file) != x.hex {
			t.Errorf("%s: error %d, %v, %x", x.what, int(e), f, file)
		}
		if want, span := plainFile(x.shape, x.l, x.tombs); string(want) != string(file) || span != f {
			t.Errorf("%s: plain: %v, %x", x.what, span, want)
		}
	}
}

// P13.2: entries alone, tombs alone, both; with each restart and some pages and bits. Finish of nothing stands beside Add.
func TestFinish(t *testing.T) {
	for restart := 1; restart <= 64; restart++ {
		for _, page := range []int{16, 64, 200, 1048576} {
			for _, perKey := range []int{0, 1, 10, 64} {
				s := api.Shape{Page: page, Restart: restart, Bits: perKey}
				isFinished(t, builder(t, s, some(), nil), s, some(), nil)
				isFinished(t, builder(t, s, nil, ranges()), s, nil, ranges())
				isFinished(t, builder(t, s, some(), ranges()), s, some(), ranges())
			}
		}
	}
}

// P13.2: what the file spans: entries and tombs that lie below, in, above and around each other.
func TestSpan(t *testing.T) {
	long := of(1024)
	for _, x := range []struct {
		l     []api.Entry
		tombs []api.Tomb
		want  api.File
	}{
		{[]api.Entry{put("m", 5, "v")}, nil, api.File{Least: "m", Limit: "m\x00", Low: 5, High: 5}},
		{[]api.Entry{del("m", 0)}, nil, api.File{Least: "m", Limit: "m\x00"}},
		{[]api.Entry{put("m", 5, ""), put("m", 4, ""), put("n", 9, "")}, nil, api.File{Least: "m", Limit: "n\x00", Low: 4, High: 9}},
		{[]api.Entry{put(long, 7, ""), put("m", 1<<56-1, "")}, nil, api.File{Least: long, Limit: "m\x00", Low: 7, High: 1<<56 - 1}},
		{nil, []api.Tomb{{Begin: "c", End: "d", Seq: 4}}, api.File{Least: "c", Limit: "d", Low: 4, High: 4}},
		{nil, []api.Tomb{{Begin: "c", End: "z", Seq: 0}, {Begin: "d", End: "e", Seq: 3}, {Begin: "b", End: "c", Seq: 2}}, api.File{Least: "b", Limit: "z", High: 3}},
		{[]api.Entry{put("m", 5, "")}, []api.Tomb{{Begin: "a", End: "b", Seq: 6}}, api.File{Least: "a", Limit: "m\x00", Low: 5, High: 6}},
		{[]api.Entry{put("m", 5, "")}, []api.Tomb{{Begin: "n", End: "o", Seq: 4}}, api.File{Least: "m", Limit: "o", Low: 4, High: 5}},
		{[]api.Entry{put("m", 5, "")}, []api.Tomb{{Begin: "a", End: "z", Seq: 5}}, api.File{Least: "a", Limit: "z", Low: 5, High: 5}},
		{[]api.Entry{put("a", 5, ""), put("z", 1, "")}, []api.Tomb{{Begin: "b", End: "c", Seq: 3}}, api.File{Least: "a", Limit: "z\x00", Low: 1, High: 5}},
		{[]api.Entry{put("m", 5, "")}, []api.Tomb{{Begin: "a", End: "m", Seq: 1}}, api.File{Least: "a", Limit: "m\x00", Low: 1, High: 5}},
		{[]api.Entry{put("m", 5, "")}, []api.Tomb{{Begin: "m", End: "m\x00", Seq: 8}}, api.File{Least: "m", Limit: "m\x00", Low: 5, High: 8}},
		{[]api.Entry{put("m", 5, "")}, []api.Tomb{{Begin: "m", End: "m\x00\x00", Seq: 8}}, api.File{Least: "m", Limit: "m\x00\x00", Low: 5, High: 8}},
		{[]api.Entry{put(long, 1, "")}, []api.Tomb{{Begin: long, End: long + "\x00", Seq: 2}}, api.File{Least: long, Limit: long + "\x00", Low: 1, High: 2}},
	} {
		for _, tombsFirst := range []bool{false, true} {
			b := builder(t, small, nil, nil)
			addAll(t, b, x.l, x.tombs, tombsFirst)
			file, f, e := b.Finish()
			x.want.Size = len(file)
			if e != api.OK || f != x.want {
				t.Errorf("%s, %s: error %d, %s, want %s", brief(x.l), brief(x.tombs), int(e), brief(f), brief(x.want))
			}
			isFinished(t, b, small, x.l, x.tombs)
		}
	}
}

// addAll adds entries and tombs, the one ahead of the other.
func addAll(t *testing.T, b *Builder, l []api.Entry, tombs []api.Tomb, tombsFirst bool) {
	t.Helper()
	addTombs := func() {
		for _, x := range tombs {
			addTomb(t, b, x, api.OK)
		}
	}
	if tombsFirst {
		addTombs()
	}
	for _, x := range l {
		add(t, b, x, api.OK)
	}
	if !tombsFirst {
		addTombs()
	}
}

// P13.2: a block ends behind the entry with which it comes to Page: just to it, one byte below and above.
func TestPages(t *testing.T) {
	// A block of one entry with a key of one byte and a short value has 3 + 9 + the value + 8 bytes, each further entry with restart 1 likewise, and 4 for its place.
	for _, x := range []struct {
		page  int
		sizes []int // of the values
		pages []int // how many entries each block has
	}{
		{16, []int{0}, []int{1}},
		{16, []int{0, 0}, []int{1, 1}},
		{20, []int{0, 0, 0}, []int{1, 1, 1}},
		{21, []int{0, 0, 0}, []int{2, 1}},
		{21, []int{1, 0, 0}, []int{1, 2}},
		{30, []int{10, 10}, []int{1, 1}},
		{30, []int{9, 9}, []int{2}},
		{30, []int{11, 9}, []int{1, 1}},
		{30, []int{9, 11}, []int{2}},
		{36, []int{0, 0, 0}, []int{2, 1}},
		{37, []int{0, 0, 0}, []int{3}},
		{37, []int{0, 1, 0}, []int{2, 1}},
		{35, []int{0, 0, 0}, []int{2, 1}},
		{52, []int{0, 0, 0, 0, 0, 0}, []int{3, 3}},
		{53, []int{0, 0, 0, 0, 0, 0}, []int{4, 2}},
		{1048576, []int{0, 0, 0, 0, 0, 0}, []int{6}},
	} {
		s := api.Shape{Page: x.page, Restart: 1}
		var l []api.Entry
		for i, size := range x.sizes {
			l = append(l, put(string(rune('a'+i)), 1, of(size)))
		}
		file := isFinished(t, builder(t, s, l, nil), s, l, nil)
		table := opened(t, file)
		var got []int
		for i := range table.Blocks() {
			b, _ := table.Block(i)
			records, _ := records(b)
			got = append(got, len(records))
		}
		if !slices.Equal(got, x.pages) {
			t.Errorf("page %d, values of %v: blocks of %v, want %v", x.page, x.sizes, got, x.pages)
		}
	}
}

// P13.2: the greatest page: full just with its last byte.
func TestGreatestPage(t *testing.T) {
	s := api.Shape{Page: 1048576, Restart: 64}
	var l []api.Entry
	size := 8
	for i := 0; size < s.Page; i++ {
		// 1 + 1 or 2 + 3 bytes ahead of a key, which shares what it can.
		value := min(65536, s.Page-size-100)
		if s.Page-size < 2000 {
			value = 100
		}
		l = append(l, put("key"+strconv.Itoa(1000+i), 1, of(max(value, 100))))
		var page []record
		for _, e := range l {
			page = append(page, recordOf(e))
		}
		size = len(plainBlock(page, 64))
	}
	last := len(l) - 1
	for _, change := range []int{-1, 0, 1} {
		m := slices.Clone(l)
		over := size - s.Page
		m[last].Value = of(len(l[last].Value) - over + change)
		m = append(m, put("z", 1, "behind"))
		want := 2
		if change < 0 {
			want = 1
		}
		file := isFinished(t, builder(t, s, m, nil), s, m, nil)
		if n := opened(t, file).Blocks(); n != want {
			t.Errorf("%d from the page: %d blocks, want %d", change, n, want)
		}
	}
}

// P13.2: the index's keys: another text than the last key where one lies between, else the last key itself; the last block's own last key.
func TestIndexKeys(t *testing.T) {
	for _, x := range []struct {
		last, next api.Entry
		want       api.IKey
	}{
		{put("abcd", 3, ""), put("abzz", 9, ""), at("abd", 1<<56-1, 255)},
		{put("abc", 3, ""), put("b", 9, ""), at("ac", 1<<56-1, 255)},
		{del("abc", 3), put("b", 9, ""), at("ac", 1<<56-1, 255)},
		{put("abc", 3, ""), put("d", 9, ""), at("b", 1<<56-1, 255)},
		{put("a", 3, ""), put("b", 9, ""), at("a", 3, 1)},
		{del("a", 3), put("z", 9, ""), at("a", 3, 0)},
		{put("ab", 3, ""), put("ab\x00", 9, ""), at("ab", 3, 1)},
		{put("a\xff\xffx", 3, ""), put("b", 9, ""), at("a\xff\xffx", 3, 1)},
		{put("a\xffx", 3, ""), put("b\x00", 9, ""), at("b", 1<<56-1, 255)},
		{put("a", 3, ""), put("a", 2, ""), at("a", 3, 1)},
		{put("abc", 3, ""), del("abc", 3), at("abc", 3, 1)},
		{put("abc", 1<<56-1, ""), del("abc", 0), at("abc", 1<<56-1, 1)},
		{put("\xff\xff", 3, ""), put("\xff\xff\x01", 9, ""), at("\xff\xff", 3, 1)},
		{put(of(1024), 3, ""), put("l", 9, ""), at("kl", 1<<56-1, 255)},
	} {
		l := []api.Entry{x.last, x.next}
		file := isFinished(t, builder(t, small, l, nil), small, l, nil)
		if got := opened(t, file).keys; !slices.Equal(got, []api.IKey{x.want, plainKeyOf(x.next)}) {
			t.Errorf("%s, %s: keys %s, want %s", brief(x.last), brief(x.next), brief(got), brief(x.want))
		}
	}
}

// P13.2: a key is once in the filter, however many numbers it comes with, and over how many blocks; without bits there is no filter.
func TestFilterOfSeveralNumbers(t *testing.T) {
	var l []api.Entry
	for _, key := range []string{"a", "b", "ba", "c"} {
		for seq := range uint64(20) {
			l = append(l, put(key, 20-seq, "v"))
		}
	}
	for _, page := range []int{16, 100, 4096} {
		for _, perKey := range []int{1, 16, 17, 64} {
			s := api.Shape{Page: page, Restart: 16, Bits: perKey}
			file := isFinished(t, builder(t, s, l, nil), s, l, nil)
			if n := len(opened(t, file).filter); n != max(4*perKey+7, 64)/8+1 {
				t.Errorf("bits %d: a filter of %d bytes", perKey, n)
			}
		}
		s := api.Shape{Page: page, Restart: 16}
		file := isFinished(t, builder(t, s, l, nil), s, l, nil)
		if n := len(opened(t, file).filter); n != 0 {
			t.Errorf("no bits: a filter of %d bytes", n)
		}
	}
}

// P13.2: of tombs alone the filter is that of no keys.
func TestFilterOfNoKeys(t *testing.T) {
	s := api.Shape{Page: 16, Restart: 1, Bits: 10}
	file := isFinished(t, builder(t, s, nil, ranges()), s, nil, ranges())
	x := opened(t, file)
	if !bytes.Equal(x.filter, []byte{0, 0, 0, 0, 0, 0, 0, 0, 6}) || x.May("a") || x.Blocks() != 0 {
		t.Errorf("filter %x, %d blocks", x.filter, x.Blocks())
	}
}

// P13.2, rule 4: what Finish told is the caller's, its spare room too.
func TestFinishIsNew(t *testing.T) {
	b := builder(t, secondShape, some(), ranges())
	for range 3 {
		file, _, _ := b.Finish()
		spare := append(file, "behind"...)
		for i := range spare {
			spare[i] = 0xee
		}
		for i := range file[:cap(file)] {
			file[:cap(file)][i] = 0xee
		}
		isFinished(t, b, secondShape, some(), ranges())
	}
}
