package table

import (
	"encoding/binary"
	"math"
	"math/rand"
	"slices"
	"strings"
	"testing"

	"moraine/api"
)

// threePages are the parts of a file with several data blocks, a filter and tombs.
func threePages() parts {
	return plainParts(api.Shape{Page: 60, Restart: 2, Bits: 10}, some()[:8], ranges())
}

// asked are keys to ask a table of them for: below, at, between and above its own.
func asked() []api.IKey {
	l := []api.IKey{{}, at("", 1, 255), at("\x00", 5, 1), at("zz", 0, 0), at(of(3000), 7, 9), at("abd", 1<<56-1, 255), at("abd", 1<<56-1, 1)}
	for _, e := range some() {
		for _, seq := range []uint64{0, e.Seq - 1, e.Seq, e.Seq + 1, 1<<56 - 1, 1 << 56, math.MaxUint64} {
			l = append(l, at(e.Key, seq, 255), at(e.Key, seq, e.Kind), at(e.Key+"\x00", seq, 255))
		}
	}
	return l
}

// P13.3, example 2: bytes that are too few, and a file without anything in it.
func TestOpenShort(t *testing.T) {
	isNone(t, "nil", nil)
	isNone(t, "nothing", []byte{})
	isNone(t, "the mark alone", []byte("moraine1"))
	for n := range 200 {
		isNone(t, "noughts", make([]byte, n))
		isNone(t, "noughts and the mark", append(make([]byte, n), "moraine1"...))
	}
	empty := laid(parts{tombs: make([]byte, 4), index: make([]byte, 4)})
	if !held(t, "empty parts", empty, asked()...) {
		t.Error("empty parts: no table")
	}
}

// P13.3: a file that is cut off anywhere, at its end or its beginning, and one with bytes behind or ahead.
func TestOpenCut(t *testing.T) {
	for _, file := range [][]byte{laid(threePages()), laid(plainParts(small, nil, ranges()))} {
		if !held(t, "whole", file, asked()...) {
			t.Fatal("whole: no table")
		}
		for n := range file {
			isNone(t, "cut at the end", file[:n])
			isNone(t, "cut at the beginning", file[n+1:])
			isNone(t, "cut within", slices.Delete(slices.Clone(file), n, n+1))
		}
		for n := 1; n < 80; n++ {
			isNone(t, "bytes behind", append(slices.Clone(file), make([]byte, n)...))
			isNone(t, "bytes ahead", append(make([]byte, n), file...))
		}
		isNone(t, "twice", append(slices.Clone(file), file...))
		isNone(t, "its footer again", append(slices.Clone(file), file[len(file)-56:]...))
	}
}

// P13.3: every bit behind the data blocks is looked at, none in them.
func TestOpenTurned(t *testing.T) {
	p := threePages()
	file := laid(p)
	data := 0
	for _, b := range p.data {
		data += len(b) + 4
	}
	for i := range file {
		for bit := range 8 {
			file[i] ^= 1 << bit
			if i >= data {
				isNone(t, "turned", file)
			} else if !held(t, "turned in the data", file, asked()...) {
				t.Errorf("the bit %d of the byte %d: no table", bit, i)
			}
			file[i] ^= 1 << bit
		}
	}
}

// P13.3: every byte of the footer, with any value: what it then is, is asked of the plain one.
func TestOpenFooterBytes(t *testing.T) {
	file := laid(threePages())
	for i := len(file) - 56; i < len(file); i++ {
		was := file[i]
		for c := range 256 {
			file[i] = byte(c)
			if held(t, "another byte", file) != (byte(c) == was) {
				t.Errorf("the byte %d as %d", i, c)
			}
		}
		file[i] = was
	}
}

// P13.3: footers of other numbers: parts that overlap, leave gaps, change places, or lie beyond the file.
func TestOpenFooterNumbers(t *testing.T) {
	for _, file := range [][]byte{laid(threePages()), laid(plainParts(small, nil, ranges()))} {
		body := file[:len(file)-56]
		bent := func(what string, numbers ...uint64) bool {
			return held(t, what, append(slices.Clone(body), footerOf(numbers...)...))
		}
		var told []uint64
		for i := range 6 {
			told = append(told, binary.LittleEndian.Uint64(file[len(body)+8*i:]))
		}
		whole := uint64(len(file))
		for i := range told {
			for _, v := range []uint64{0, 1, told[i] - 1, told[i] + 1, told[i] - 4, told[i] + 4, whole - 57, whole - 56, whole - 55, whole, whole + 1, 1<<31 - 1, 1 << 31, 1 << 32, 1<<32 + told[i], 1<<63 - 1, 1 << 63, 1<<63 + told[i], -told[i], math.MaxUint64, math.MaxUint64 - 3, math.MaxUint64 - 4} {
				if bent("another number", changed(told, i, v)...) != (v == told[i]) {
					t.Errorf("the number %d as %d", i, v)
				}
				for j := range told {
					// Two that come to the same sum, also beyond the widest number.
					bent("two other numbers", changed(changed(told, j, told[j]+told[i]-v), i, v)...)
				}
			}
			for j := range told {
				bent("two numbers that change places", changed(changed(told, i, told[j]), j, told[i])...)
			}
		}
		if bent("noughts", make([]uint64, 6)...) || !bent("as they were", told...) {
			t.Error("footers of noughts, or as they were")
		}
		isNone(t, "another mark", append(slices.Clone(file[:len(file)-1]), '2'))
	}
}

// changed tells numbers with another one at a place.
func changed(l []uint64, i int, v uint64) []uint64 {
	l = slices.Clone(l)
	l[i] = v
	return l
}

// P13.3: parts with gaps between them, or that share bytes, with the footer's numbers and all sums right.
func TestOpenGaps(t *testing.T) {
	none := make([]byte, 4)
	lay := func(gaps ...int) []byte {
		var file []byte
		var numbers []uint64
		for i, b := range [][]byte{nil, none, none} {
			file = append(file, make([]byte, gaps[i])...)
			numbers = append(numbers, uint64(len(file)), uint64(len(b)))
			file = append(append(file, b...), plainTrailer(b)...)
		}
		file = append(file, make([]byte, gaps[3])...)
		return append(file, footerOf(numbers...)...)
	}
	if !held(t, "no gap", lay(0, 0, 0, 0)) {
		t.Error("no gap: no table")
	}
	for i := range 4 {
		for _, gap := range []int{1, 4, 8, 56} {
			gaps := make([]int, 4)
			gaps[i] = gap
			isNone(t, "a gap", lay(gaps...))
		}
	}
	// Tombs and index are one part, told twice.
	one := append(append(plainTrailer(nil), none...), plainTrailer(none)...)
	isNone(t, "one part for two", append(one, footerOf(0, 0, 4, 4, 4, 4)...))
	isNone(t, "parts in another order", append(laid(parts{tombs: none, index: none})[:20], footerOf(0, 0, 12, 4, 4, 4)...))
}

// P13.3: sums that are right of parts that are no blocks.
func TestOpenNoBlocks(t *testing.T) {
	p := threePages()
	for _, b := range [][]byte{nil, {}, {0}, make([]byte, 3), make([]byte, 5), make([]byte, 8), {1, 0, 0, 0}, p.tombs[:len(p.tombs)-1], append(slices.Clone(p.tombs), 0), p.tombs[1:]} {
		bent := p
		bent.tombs = b
		isNone(t, "tombs that are no block", laid(bent))
		bent = p
		bent.index = b
		isNone(t, "an index that is no block", laid(bent))
	}
	bent := p
	bent.tombs = p.index
	isNone(t, "the index for tombs", laid(bent))
	bent = p
	bent.index = p.tombs
	isNone(t, "the tombs for an index", laid(bent))
}

// P13.3: the filter's bytes may be any: only their sum is looked at.
func TestOpenFilters(t *testing.T) {
	for _, b := range [][]byte{nil, {0}, {1}, {0, 0}, {0, 31}, {0, 1}, {255, 30}, make([]byte, 100)} {
		p := threePages()
		p.filter = b
		if !held(t, "another filter", laid(p), asked()...) {
			t.Errorf("the filter %x: no table", b)
		}
	}
}

// P13.3: tombs of another kind, and such as are not valid; how often the block restarts does not matter.
func TestOpenTombs(t *testing.T) {
	for _, x := range []struct {
		record
		ok bool
	}{
		{record{at("m", 5, api.KindRange), "n"}, true},
		{record{at("m", 0, api.KindRange), "m\x00"}, true},
		{record{at(of(1024), 1<<56-1, api.KindRange), of(1025)}, true},
		{record{at("m", 5, api.KindPut), "n"}, false},
		{record{at("m", 5, api.KindDelete), "n"}, false},
		{record{at("m", 5, api.KindSeek), "n"}, false},
		{record{at("m", 5, api.KindRange), "m"}, false},
		{record{at("m", 5, api.KindRange), "l"}, false},
		{record{at("m", 5, api.KindRange), ""}, false},
		{record{at("m", 5, api.KindRange), strings.Repeat("n", 1025)}, true},
		{record{at("m", 5, api.KindRange), strings.Repeat("n", 1026)}, false},
		{record{at("m", 5, api.KindRange), strings.Repeat("n", 65536)}, false},
	} {
		good := []record{{at("a", 9, api.KindRange), "z"}, {at("zz", 1, api.KindRange), "zzz"}}
		for _, l := range [][]record{{x.record}, {good[0], x.record}, {x.record, good[1]}, {good[0], x.record, good[1]}} {
			for _, restart := range []int{1, 2, 64} {
				p := threePages()
				p.tombs = plainBlock(l, restart)
				if held(t, "tombs", laid(p)) != x.ok {
					t.Errorf("the tomb %s %.60q", brief(x.key), x.value)
				}
			}
		}
	}
}

// P13.3: the index's values: numbers in no form, too few, with bytes behind; places that leave gaps, overlap, do not begin at 0 or do not come to the filter.
func TestOpenIndexValues(t *testing.T) {
	p := threePages()
	sizes := []uint64{uint64(len(p.data[0])), uint64(len(p.data[1])), uint64(len(p.data[2]))}
	places := []uint64{0, sizes[0] + 4, sizes[0] + sizes[1] + 8}
	right := func() []string {
		return []string{handleValue(places[0], sizes[0]), handleValue(places[1], sizes[1]), handleValue(places[2], sizes[2])}
	}
	index := func(values []string) []byte {
		var l []record
		for i, v := range values {
			l = append(l, record{at("key"+string(rune('a'+i)), 1, 1), v})
		}
		p.index = plainBlock(l, 1)
		return laid(p)
	}
	if len(p.data) != 3 || !held(t, "right", index(right()), asked()...) {
		t.Fatalf("%d blocks", len(p.data))
	}
	for i := range 3 {
		place, size := places[i], sizes[i]
		values := []string{"", "\x00", "\x00\x00", "\x80", "\x80\x00", right()[i][:1], right()[i] + "\x00", right()[i] + right()[i], "\x00" + right()[i]}
		values = append(values, string(append(binary.AppendUvarint(nil, place), byte(size)|128, byte(size>>7)|128, 0)), strings.Repeat("\xff", 9)+"\x02\x00", strings.Repeat("\xff", 30))
		for _, v := range []uint64{place + 1, place - 1, place + 4, place - 4, place + size, 1<<32 + place, 1<<63 + place, 1<<63 - 1, math.MaxUint64} {
			values = append(values, handleValue(v, size), handleValue(v, size+place-v))
		}
		for _, v := range []uint64{0, size + 1, size - 1, size + 4, size - 4, 1<<32 + size, 1<<63 + size, 1<<63 - 1, math.MaxUint64, math.MaxUint64 - 3, -place, -place - 4} {
			values = append(values, handleValue(place, v))
		}
		for j := range 3 {
			if j != i {
				values = append(values, right()[j], handleValue(places[j], size), handleValue(place, sizes[j]+1))
			}
		}
		for _, v := range values {
			bent := right()
			bent[i] = v
			isNone(t, "a bent value", index(bent))
		}
	}
	for _, values := range [][]string{
		nil, right()[:1], right()[:2], right()[1:], right()[2:], {right()[0], right()[2]}, {right()[1], right()[0], right()[2]},
		{right()[0], right()[0], right()[1], right()[2]}, append(right(), right()[2]),
		append(right(), handleValue(places[2]+sizes[2]+4, 0)), append(right(), handleValue(places[2]+sizes[2]+4, math.MaxUint64-3)),
	} {
		isNone(t, "bent values", index(values))
	}
	if !held(t, "one for two", index([]string{handleValue(0, sizes[0]+4+sizes[1]), right()[2]}), asked()...) || !held(t, "one for all", index([]string{handleValue(0, places[2]+sizes[2])}), asked()...) {
		t.Error("blocks of any bytes that fill the file are a table's")
	}
	if !held(t, "blocks of no bytes", index([]string{right()[0], right()[1], handleValue(places[2], 0), handleValue(places[2]+4, sizes[2]-4)}), asked()...) {
		t.Error("a block may have no bytes")
	}
}

// P13.3: values that end too soon are no noughts, of a block without bytes neither.
func TestOpenIndexShort(t *testing.T) {
	first, second := handleValue(0, 0), handleValue(4, 0)
	for _, values := range [][]string{{first}, {first, second}, {""}, {first[:1]}, {"", second}, {first[:1], second}, {first, ""}, {first, second[:1]}} {
		var index []record
		p := parts{tombs: make([]byte, 4)}
		for i, v := range values {
			index = append(index, record{at(string(rune('a'+i)), 1, 1), v})
			p.data = append(p.data, nil)
		}
		p.index = plainBlock(index, 1)
		whole := !slices.ContainsFunc(values, func(v string) bool { return len(v) < 2 })
		if held(t, "short values", laid(p), asked()...) != whole {
			t.Errorf("values %q", values)
		}
	}
}

// P13.3: lengths that come round to the right place only beyond the widest number.
func TestOpenIndexRound(t *testing.T) {
	const most = math.MaxInt64
	for data := range 4 {
		end := uint64(data)
		for _, l := range [][][2]uint64{
			{{0, most - 4}, {most, end - 4 - most}},
			{{0, most - 4}, {most, most}},
			{{0, end - 4}},
			{{0, math.MaxUint64 - 7}, {math.MaxUint64 - 3, end}},
			{{0, most - 5}, {most - 1, end - 3 - most}},
			{{0, 1 << 62}, {1<<62 + 4, 1 << 62}, {1<<63 + 8, 1 << 62}, {3<<62 + 12, end - 3<<62 - 16}},
			{{0, most - 5}, {most - 1, most - 1}, {0, end - 4}},
		} {
			var index []record
			for i, h := range l {
				index = append(index, record{at(string(rune('a'+i)), 1, 1), handleValue(h[0], h[1])})
			}
			rest := laid(parts{tombs: make([]byte, 4), index: plainBlock(index, 1)})
			numbers := []uint64{end, 0, end + 4, 4, end + 12, uint64(len(rest) - 56 - 16)}
			file := slices.Concat(make([]byte, data), rest[:len(rest)-56], footerOf(numbers...))
			isNone(t, "round", file)
		}
	}
}

// P13.3: data blocks are not looked at: any bytes open, and are told where their sums are right.
func TestOpenAnyData(t *testing.T) {
	p := parts{data: [][]byte{nil, []byte("no block"), {0}, make([]byte, 4), plainBlock([]record{{at("m", 3, 1), "v"}}, 1)}, tombs: make([]byte, 4)}
	var index []record
	place := 0
	for i, b := range p.data {
		index = append(index, record{at(string(rune('i'+i)), 1, 1), handleValue(uint64(place), uint64(len(b)))})
		place += len(b) + 4
	}
	p.index = plainBlock(index, 3)
	keys := append(asked(), at("j", 1, 1), at("k", 1, 1), at("l", 1, 1), at("m", 1, 1), at("m", 3, 1), at("m", 4, 1))
	if !held(t, "any data", laid(p), keys...) {
		t.Error("any data: no table")
	}
	x := opened(t, laid(p))
	for key, want := range map[string]api.Errno{"a": api.ErrTable, "j": api.ErrTable, "k": api.ErrTable, "l": api.OK, "m": api.OK, "n": api.OK} {
		if e, ok, err := x.Get(key, 9); err != want || ok != (key == "m") || key == "m" && e != put("m", 3, "v") {
			t.Errorf("Get(%q): %v, %t, error %d, want %d", key, e, ok, int(err), int(want))
		}
	}
}

// P13.3, rule 4: a table is of the bytes as they were at Open, which Open does not change.
func TestOpenIsNew(t *testing.T) {
	want := laid(threePages())
	plain, _ := plainOpen(slices.Clone(want))
	room := append(slices.Clone(want), "behind"...)
	file := room[:len(want)]
	x := opened(t, file)
	if string(room) != string(want)+"behind" {
		t.Error("Open changed the bytes, or what lies behind them")
	}
	for i := range room {
		room[i] ^= 0xff
	}
	tells(t, "changed behind Open", x, plain, asked())
}

// P13.3: bytes changed by chance, a few at a time; the sums made right again half of the time.
func TestOpenByChance(t *testing.T) {
	chance := rand.New(rand.NewSource(13))
	tables := 0
	for range 20000 {
		p := threePages()
		part := []*[]byte{&p.filter, &p.tombs, &p.index, &p.data[0], &p.data[2]}[chance.Intn(5)]
		*part = slices.Clone(*part)
		if chance.Intn(2) == 0 {
			(*part)[chance.Intn(len(*part))] = byte(chance.Intn(256))
		}
		file := laid(p)
		for range chance.Intn(3) {
			file[chance.Intn(len(file))] = byte(chance.Intn(256))
		}
		if held(t, "by chance", file, asked()[chance.Intn(20):][:3]...) {
			tables++
		}
	}
	if tables < 2000 || tables > 18000 {
		t.Errorf("%d of 20000 are tables: the chances are bad", tables)
	}
}
