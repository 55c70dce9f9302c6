package block

import (
	"encoding/binary"
	"math/rand"
	"slices"
	"strings"
	"testing"

	"moraine/api"
)

// three are entries that share some of their keys: the block has two restarts, the first and the third.
func three() []entry {
	return []entry{{put("ab", 3), "x"}, {put("abc", 2), "yy"}, {put("b", 7), ""}, {put("bb", 1), "z"}}
}

// withPlaces tells entries' bytes with places and a count behind them.
func withPlaces(entries []byte, count uint32, places ...uint32) []byte {
	b := slices.Clone(entries)
	for _, place := range places {
		b = binary.LittleEndian.AppendUint32(b, place)
	}
	return binary.LittleEndian.AppendUint32(b, count)
}

// alone tells one entry of free numbers as a block.
func alone(shared, rest, size uint64, bytes string) []byte {
	var b []byte
	for _, v := range []uint64{shared, rest, size} {
		b = binary.AppendUvarint(b, v)
	}
	return withPlaces(append(b, bytes...), 1, 0)
}

// P11.2, example 2: a block without entries, and bytes that are too few.
func TestOpenNothing(t *testing.T) {
	opens(t, "no entries", make([]byte, 4), nil)
	for n := range 4 {
		isNone(t, "too few", make([]byte, n))
		isNone(t, "too few", []byte(strings.Repeat("\x01", n)))
	}
	isNone(t, "nil", nil)
	for _, count := range []uint32{1, 2, 3, 1 << 8, 1 << 24, 1 << 30, 1 << 31, 1<<32 - 1} {
		isNone(t, "a count without places", withPlaces(nil, count))
	}
	isNone(t, "a place without entries", withPlaces(nil, 1, 0))
	isNone(t, "a place without entries", withPlaces(nil, 1, 4))
	isNone(t, "two places without entries", withPlaces(nil, 2, 0, 0))
	for n := 5; n < 40; n++ {
		isNone(t, "noughts", make([]byte, n))
	}
}

// P11.2: a block that is cut anywhere, and one with bytes behind it. (Cut at its beginning it may be a block again, of entries that share nothing with what went.)
func TestOpenCut(t *testing.T) {
	for _, l := range [][]entry{first(), three(), rising()[:9]} {
		for _, restart := range []int{1, 2, 64} {
			b := plainBytes(l, restart)
			opens(t, "whole", b, l)
			for n := range b {
				isNone(t, "cut", b[:n])
				held(t, b[n+1:])
			}
			for c := range 256 {
				isNone(t, "a byte behind", append(slices.Clone(b), byte(c)))
			}
			for n := 1; n < 20; n++ {
				isNone(t, "noughts behind", append(slices.Clone(b), make([]byte, n)...))
			}
			isNone(t, "a byte ahead", append([]byte{0}, b...))
			isNone(t, "twice", append(slices.Clone(b), b...))
		}
	}
}

// P11.2: a byte of a block that is changed: what it then is, is asked of the plain ones.
func TestOpenBytesChanged(t *testing.T) {
	b := plainBytes(three(), 2)
	for i := range b {
		for c := range 256 {
			x := slices.Clone(b)
			x[i] = byte(c)
			held(t, x)
		}
	}
}

// held holds Open against the plain one, and tells whether the bytes are a block.
func held(t *testing.T, b []byte) bool {
	t.Helper()
	l, ok := plainOpen(b)
	if ok {
		opens(t, "plain takes it", b, l)
	} else {
		isNone(t, "plain does not take it", b)
	}
	return ok
}

// P11.2: counts and places that are not those of the entries.
func TestOpenPlaces(t *testing.T) {
	l := three()
	b := plainBytes(l, 2)
	entries := b[:len(b)-12]
	third := binary.LittleEndian.Uint32(b[len(b)-8:])
	second := uint32(3 + 10 + 1)
	end := uint32(len(entries))
	opens(t, "both", withPlaces(entries, 2, 0, third), l)
	opens(t, "the first alone", withPlaces(entries, 1, 0), l)
	for _, x := range []struct {
		what   string
		count  uint32
		places []uint32
	}{
		{"none", 0, nil},
		{"the second alone", 1, []uint32{third}},
		{"not rising", 2, []uint32{third, 0}},
		{"twice the same", 2, []uint32{0, 0}},
		{"twice the same at the end", 3, []uint32{0, third, third}},
		{"back", 3, []uint32{0, third, 0}},
		{"an entry that shares", 2, []uint32{0, second}},
		{"an entry that shares, between", 3, []uint32{0, second, third}},
		{"within an entry", 2, []uint32{0, third - 1}},
		{"within an entry", 2, []uint32{0, third + 1}},
		{"within the first entry", 2, []uint32{0, 1}},
		{"behind the entries", 2, []uint32{0, end}},
		{"behind the entries", 3, []uint32{0, third, end}},
		{"far behind", 3, []uint32{0, third, 1<<32 - 1}},
		{"far behind by the sign", 3, []uint32{0, third, 1 << 31}},
		{"the first one is not 0", 2, []uint32{1, third}},
		{"the first one is not 0", 1, []uint32{1}},
		{"one too few in the count", 1, []uint32{0, third}},
		{"one too many in the count", 3, []uint32{0, third}},
		{"none in the count", 0, []uint32{0, third}},
		{"the greatest count", 1<<32 - 1, []uint32{0, third}},
		{"as many as four times are none", 1 << 30, []uint32{0, third}},
		{"two and as many as four times are none", 1<<30 + 2, []uint32{0, third}},
		{"two, seen with a sign", 1<<31 + 2, []uint32{0, third}},
		{"all bytes as places", uint32(len(b))/4 - 1, []uint32{0, third}},
		{"more than all bytes", uint32(len(b)) / 4, []uint32{0, third}},
	} {
		isNone(t, x.what, withPlaces(entries, x.count, x.places...))
	}
}

// P11.2: blocks that share less than they could, and entries that share nothing and are no restarts.
func TestOpenSharedLess(t *testing.T) {
	l := three()
	all := builtAs(l, 64)
	for shared := range all[1].shared + 1 {
		x := slices.Clone(all)
		x[1].shared = shared
		opens(t, "shares less", laid(x), l)
		x[1].isRestart = true
		if shared == 0 {
			opens(t, "one more restart", laid(x), l)
		} else {
			isNone(t, "a restart that shares", laid(x))
		}
	}
	free := builtAs(l, 1)
	for n := range 16 {
		for i := range free {
			free[i].isRestart = n>>i&1 == 1
		}
		if n&1 == 1 {
			opens(t, "some restarts", laid(free), l)
		} else {
			isNone(t, "the first one is no restart", laid(free))
		}
	}
}

// P11.2: varints that are cut or in a form that is none, in each of an entry's three places.
func TestOpenVarints(t *testing.T) {
	key := plainKeyBytes(put("k", 1))
	good := []string{"\x00", "\x09", "\x01"}
	opens(t, "good", withPlaces([]byte(strings.Join(good, "")+key+"v"), 1, 0), []entry{{put("k", 1), "v"}})
	for i := range good {
		for _, s := range []string{
			"\x80\x00", "\x89\x00", "\x81\x80\x00", "\x80", "\xff", "",
			"\xff\xff\xff\xff\xff\xff\xff\xff\xff\x01", "\xff\xff\xff\xff\xff\xff\xff\xff\xff\x02", "\xff\xff\xff\xff\xff\xff\xff\xff\xff\xff\x01",
			"\x80\x80\x80\x80\x80\x80\x80\x80\x80\x01", "\x80\x80\x80\x80\x80\x80\x80\x80\x80\x02", "\x80\x80\x80\x80\x10", "\xff\xff\xff\xff\xff\xff\xff\xff\x7f",
		} {
			x := slices.Clone(good)
			x[i] = s
			isNone(t, "a varint", withPlaces([]byte(strings.Join(x, "")+key+"v"), 1, 0))
		}
		isNone(t, "a cut entry", withPlaces([]byte(strings.Join(good[:i], "")), 1, 0))
		isNone(t, "a cut varint", withPlaces([]byte(strings.Join(good[:i], "")+"\x80"), 1, 0))
		isNone(t, "the places begin in a varint", withPlaces([]byte(strings.Join(good[:i], "")+"\xff"), 1, 0))
	}
}

// P11.2: an entry that shares more than the key ahead has.
func TestOpenSharesTooMuch(t *testing.T) {
	key := plainKeyBytes(put("k", 770))
	entries := func(shared int, rest string) []byte {
		b := append([]byte("\x00\x09\x00"), key...)
		b = binary.AppendUvarint(b, uint64(shared))
		b = binary.AppendUvarint(b, uint64(len(rest)))
		return withPlaces(append(append(b, 0), rest...), 1, 0)
	}
	behind := plainKeyBytes(put(key, 5))
	opens(t, "all of the key ahead", entries(9, behind[9:]), []entry{{put("k", 770), ""}, {put(key, 5), ""}})
	for _, shared := range []int{10, 11, 127, 128, 1 << 20, 1<<63 - 1} {
		isNone(t, "more than the key ahead", entries(shared, behind[9:]))
		isNone(t, "more than the key ahead", entries(shared, ""))
	}
	isNone(t, "the same key", entries(9, ""))
	for shared := range 9 {
		isNone(t, "the first one shares something", alone(uint64(shared)+1, 9, 0, key))
		isNone(t, "the first one shares something", alone(uint64(shared)+1, uint64(8-shared), 0, key[shared+1:]))
	}
	// Of a longer key ahead of the last one nothing can be shared any more.
	b := laid(builtAs([]entry{{put("aaaaaaaa", 1), ""}, {put("b", 1), ""}}, 64))
	b = slices.Insert(b[:len(b)-8:len(b)-8], len(b)-8, []byte("\x0a\x08\x00\x01\x01\x00\x00\x00\x00\x00\x00")...)
	isNone(t, "more than the key ahead, less than the one ahead of that", withPlaces(b, 1, 0))
}

// P11.2: lengths that go beyond the entries, up to the greatest.
func TestOpenBeyond(t *testing.T) {
	key := plainKeyBytes(put("k", 1))
	opens(t, "just so", alone(0, 9, 3, key+"val"), []entry{{put("k", 1), "val"}})
	for _, more := range []uint64{1, 2, 3, 4, 8, 100, 65000, 1<<31 - 10, 1 << 31, 1<<32 - 9, 1 << 32, 1<<63 - 20, 1<<63 - 3, 1 << 63, maxWord - 9, maxWord - 3} {
		isNone(t, "the value goes beyond", alone(0, 9, 3+more, key+"val"))
		isNone(t, "the key goes beyond", alone(0, 9+more, 3, key+"val"))
		isNone(t, "the key alone goes beyond", alone(0, 9+more, 0, key))
		isNone(t, "both go beyond", alone(0, 9+more, 3+more, key+"val"))
	}
	isNone(t, "all the greatest", alone(maxWord, maxWord, maxWord, key+"val"))
	isNone(t, "lengths that together are right", alone(0, 10, maxWord, key))
	isNone(t, "bytes behind the entry", alone(0, 9, 2, key+"val"))
}

// P11.2: keys that ikey.Decode does not take, and their edges.
func TestOpenKeys(t *testing.T) {
	packed := "\x01\x05\x00\x00\x00\x00\x00\x00"
	for n := range 9 {
		isNone(t, "a key without bytes", alone(0, uint64(n), 0, packed[:n]))
	}
	opens(t, "the longest", alone(0, 1032, 0, of(1024)+packed), []entry{{put(of(1024), 5), ""}})
	isNone(t, "one too long", alone(0, 1033, 0, of(1025)+packed))
	isNone(t, "far too long", alone(0, 70000, 0, of(69992)+packed))
	for c := range 256 {
		b := alone(0, 9, 0, "k"+string([]byte{byte(c)})+packed[1:])
		if plainIsKind(c) {
			opens(t, "a kind", b, []entry{{at("k", 5, c), ""}})
		} else {
			isNone(t, "no kind", b)
		}
	}
	opens(t, "the greatest number", alone(0, 9, 0, "k\x00"+strings.Repeat("\xff", 7)), []entry{{at("k", 1<<56-1, 0), ""}})
}

// P11.2: a value of MaxValue bytes, and of one more.
func TestOpenValues(t *testing.T) {
	key := plainKeyBytes(put("k", 1))
	for _, n := range []int{0, 1, 127, 128, 65535, 65536} {
		opens(t, "a value", alone(0, 9, uint64(n), key+of(n)), []entry{{put("k", 1), of(n)}})
	}
	for _, n := range []int{65537, 65538, 200000} {
		isNone(t, "a value that is too long", alone(0, 9, uint64(n), key+of(n)))
	}
}

// P11.2: keys that are the same as, or ahead of, the one before, by key, number and kind.
func TestOpenOrder(t *testing.T) {
	last := at("m", 5, api.KindPut)
	for _, x := range []struct {
		key api.IKey
		ok  bool
	}{
		{at("m", 5, api.KindPut), false},
		{at("m", 5, api.KindRange), false},
		{at("m", 5, api.KindSeek), false},
		{at("m", 5, api.KindDelete), true},
		{at("m", 6, api.KindPut), false},
		{at("m", 1<<56-1, api.KindDelete), false},
		{at("m", 4, api.KindPut), true},
		{at("m", 0, api.KindSeek), true},
		{at("l", 5, api.KindPut), false},
		{at("l\xff", 1, api.KindPut), false},
		{at("m\x00", 9, api.KindPut), true},
		{at("n", 9, api.KindPut), true},
	} {
		for shared := range plainShared(plainKeyBytes(last), plainKeyBytes(x.key)) + 1 {
			b := laid([]written{{entry{last, "v"}, 0, true}, {entry{x.key, "w"}, shared, false}})
			if x.ok {
				opens(t, "behind", b, []entry{{last, "v"}, {x.key, "w"}})
			} else {
				isNone(t, "not behind", b)
			}
		}
	}
}

// P11.2, rule 4: a cursor is over the bytes as they were at Open, and changes none.
func TestOpenKeepsNothing(t *testing.T) {
	l := rising()[:9]
	b := plainBytes(l, 2)
	room := append(slices.Clone(b), "spare room"...)
	was := slices.Clone(room)
	given := room[:len(b)]
	c, e := Open(given)
	if e != api.OK {
		t.Fatal(int(e))
	}
	told(c)
	c.Seek(put("aa", 8))
	if string(room) != string(was) {
		t.Errorf("Open changed what it was given: %x", room)
	}
	for i := range room {
		room[i] = 0xee
	}
	if got := told(c); !slices.Equal(got, l) {
		t.Errorf("entries changed with the bytes: %v", got)
	}
}

// freely writes entries with restarts and shares of any kind that may be, and more seldom of one that may not be.
func freely(chance *rand.Rand, l []entry) []byte {
	x := builtAs(l, 64)
	for i := range x {
		switch chance.Intn(3) {
		case 0:
			x[i].shared = 0
		case 1:
			x[i].shared = chance.Intn(x[i].shared + 1)
		}
		x[i].isRestart = i == 0 || x[i].shared == 0 && chance.Intn(2) == 0 || chance.Intn(40) == 0
	}
	return laid(x)
}

// bent changes something in bytes.
func bent(chance *rand.Rand, b []byte) []byte {
	b = slices.Clone(b)
	i := chance.Intn(len(b))
	switch chance.Intn(5) {
	case 0:
		b[i] = byte(chance.Intn(256))
	case 1:
		b[i] += byte(chance.Intn(3)) - 1
	case 2:
		b = slices.Delete(b, i, i+1)
	case 3:
		b = slices.Insert(b, i, byte(chance.Intn(4)))
	case 4:
		j := chance.Intn(len(b))
		b[i], b[j] = b[j], b[i]
	}
	return b
}

// P11.2: blocks that are written freely, and ones with something changed, held against the plain one.
func TestChanceOpened(t *testing.T) {
	chance := rand.New(rand.NewSource(2))
	taken, refused := 0, 0
	count := func(ok bool) {
		if ok {
			taken++
		} else {
			refused++
		}
	}
	for range 4000 {
		b := freely(chance, chanceEntries(chance, 12))
		count(held(t, b))
		for range 8 {
			b = bent(chance, b)
			count(held(t, b))
			if len(b) == 0 {
				break
			}
		}
	}
	if taken < 4000 || refused < 4000 {
		t.Errorf("%d taken, %d refused", taken, refused)
	}
}
