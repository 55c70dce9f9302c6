package table

import (
	"math"
	"math/rand"
	"slices"
	"strings"
	"testing"

	"moraine/api"
)

// made tells the table of entries and tombs.
func made(t *testing.T, s api.Shape, l []api.Entry, tombs []api.Tomb) *Table {
	t.Helper()
	return opened(t, isFinished(t, builder(t, s, l, tombs), s, l, tombs))
}

// entriesOf tells a table's entries, block by block.
func entriesOf(t *testing.T, x *Table) []api.Entry {
	t.Helper()
	var l []api.Entry
	for i := range x.Blocks() {
		b, e := x.Block(i)
		rows, ok := records(b)
		if e != api.OK || !ok {
			t.Fatalf("Block(%d): error %d, a block: %t", i, int(e), ok)
		}
		for _, r := range rows {
			l = append(l, api.Entry{Key: r.key.Key, Seq: r.key.Seq, Kind: r.key.Kind, Value: r.value})
		}
	}
	return l
}

func gets(t *testing.T, x *Table, key string, seq uint64, want api.Entry, found bool) {
	t.Helper()
	if got, ok, e := x.Get(key, seq); got != want || ok != found || e != api.OK {
		t.Errorf("Get(%.60q, %d): %s, %t, error %d, want %s, %t", key, seq, brief(got), ok, int(e), brief(want), found)
	}
}

// P13.4: how many blocks, their bytes, and numbers of none.
func TestBlocks(t *testing.T) {
	for n := range len(some()) + 1 {
		x := made(t, small, some()[:n], ranges())
		if x.Blocks() != n {
			t.Errorf("%d entries of a block each: %d blocks", n, x.Blocks())
		}
		for i, e := range some()[:n] {
			if b, err := x.Block(i); err != api.OK || string(b) != string(plainBlock([]record{recordOf(e)}, 1)) {
				t.Errorf("Block(%d): error %d, %x", i, int(err), b)
			}
		}
		for _, i := range []int{math.MinInt, -2, -1, n, n + 1, n + 100, math.MaxInt} {
			if b, err := x.Block(i); len(b) != 0 || err != api.ErrArg {
				t.Errorf("Block(%d) of %d: error %d, %x", i, n, int(err), b)
			}
		}
	}
}

// P13.4, P13.5: a data block of another sum is told by Block and Get alone, and by those that look at it.
func TestTurnedBlock(t *testing.T) {
	l := []api.Entry{put("b", 3, "v"), put("d", 3, "v"), put("f", 3, "v")}
	file := isFinished(t, builder(t, small, l, ranges()), small, l, ranges())
	size := len(file)
	for i := range 3 * 25 {
		file[i] ^= 0x10
		x := opened(t, file)
		if x.Blocks() != 3 || len(file) != size || !x.May("d") || !slices.Equal(x.Tombs(), plainTombs(ranges())) {
			t.Errorf("the byte %d turned: %d blocks", i, x.Blocks())
		}
		for j, e := range l {
			if n := x.Find(plainKeyOf(e)); n != j {
				t.Errorf("the byte %d turned: Find tells %d of the block %d", i, n, j)
			}
			turned := i/25 == j
			want := api.OK
			if turned {
				want = api.ErrTable
			}
			b, err := x.Block(j)
			if err != want || (len(b) == 0) != turned {
				t.Errorf("the byte %d turned: Block(%d): error %d, %x", i, j, int(err), b)
			}
			for _, key := range []string{e.Key, string(e.Key[0] - 1)} {
				got, ok, err := x.Get(key, 9)
				if err != want || ok != (key == e.Key && !turned) || ok == (got == api.Entry{}) {
					t.Errorf("the byte %d turned: Get(%q): %v, %t, error %d", i, key, got, ok, int(err))
				}
			}
		}
		gets(t, x, "g", 9, api.Entry{}, false)
		gets(t, x, "f", 2, api.Entry{}, false)
		file[i] ^= 0x10
	}
}

// P13.5: a key that is not in the filter is not looked for in a block, however bent that is.
func TestTurnedBlockBehindFilter(t *testing.T) {
	l := []api.Entry{put("b", 3, "v"), put("d", 3, "v"), put("f", 3, "v")}
	s := api.Shape{Page: 4096, Restart: 1, Bits: 20}
	file := isFinished(t, builder(t, s, l, nil), s, l, nil)
	file[0] ^= 1
	x := opened(t, file)
	none := 0
	for i := range 256 {
		key := "a" + string([]byte{byte(i)})
		_, ok, e := x.Get(key, 9)
		want := api.ErrTable
		if !x.May(key) {
			want = api.OK
			none++
		}
		if ok || e != want {
			t.Errorf("Get(%q): %t, error %d, want %d", key, ok, int(e), int(want))
		}
	}
	if none < 200 {
		t.Errorf("of 256 keys only %d are not in the filter", none)
	}
}

// P13.4: Find below, in, between and above all blocks.
func TestFind(t *testing.T) {
	l := []api.Entry{put("abcd", 9, ""), put("abzz", 5, ""), put("abzz", 4, ""), put("b", 3, "")}
	x := made(t, small, l, nil)
	for _, c := range []struct {
		k    api.IKey
		want int
	}{
		{api.IKey{}, 0}, {at("", math.MaxUint64, math.MaxInt), 0}, {at("a", 1, 1), 0}, {at("abcd", 1<<56-1, 255), 0}, {at("abcd", 9, 1), 0},
		{at("abcd", 9, 0), 0}, {at("abcd", 0, 0), 0}, {at("abcd\x00", 5, 1), 0}, {at("abczzz", 5, 1), 0}, {at("abd", 1<<56-1, 255), 0}, {at("abd", math.MaxUint64, 1), 0},
		{at("abd", 1<<56-1, 256), 0}, {at("abd", 1<<56-1, 254), 1}, {at("abd", 1<<56-2, 255), 1}, {at("abd", 1, 1), 1}, {at("abz", 9, 1), 1}, {at("abzz", 1<<56-1, 255), 1}, {at("abzz", 5, 255), 1}, {at("abzz", 5, 1), 1},
		{at("abzz", 5, 0), 2}, {at("abzz", 4, 255), 2}, {at("abzz", 4, 1), 2},
		{at("abzz", 4, 0), 2}, {at("abzz", 3, 255), 2}, {at("abzz\x00", 9, 1), 2}, {at("ac", 1<<56-1, 255), 2},
		{at("ac", 1<<56-1, 254), 3}, {at("ac", 9, 1), 3}, {at("b", 9, 1), 3}, {at("b", 3, 255), 3}, {at("b", 3, 1), 3},
		{at("b", 3, 0), 4}, {at("b", 3, math.MinInt), 4}, {at("b", 2, 255), 4}, {at("b\x00", 9, 255), 4}, {at("z", 9, 1), 4}, {at(strings.Repeat("\xff", 5000), 0, 0), 4},
	} {
		if i := x.Find(c.k); i != c.want {
			t.Errorf("Find(%s): %d, want %d", brief(c.k), i, c.want)
		}
	}
	if i := made(t, small, nil, ranges()).Find(at("m", 1, 1)); i != 0 {
		t.Errorf("Find without blocks: %d", i)
	}
}

// P13.4: May without a filter and with one; keys that are none may be asked for too.
func TestMay(t *testing.T) {
	without := made(t, small, some(), nil)
	with := made(t, api.Shape{Page: 16, Restart: 1, Bits: 10}, some(), nil)
	may := 0
	for i := range 1000 {
		key := "q" + strings.Repeat("x", i%7) + string([]byte{byte(i), byte(i >> 8)})
		if !without.May(key) {
			t.Errorf("May(%q) is false without a filter", key)
		}
		if with.May(key) != plainMay(with.filter, key) {
			t.Errorf("May(%q) is not that of the filter", key)
		}
		if with.May(key) {
			may++
		}
	}
	if may > 200 {
		t.Errorf("of 1000 keys that are not there %d may be", may)
	}
	for _, e := range some() {
		if !with.May(e.Key) || !without.May(e.Key) {
			t.Errorf("May(%q) is false", e.Key)
		}
	}
	for _, key := range []string{"", of(1025), of(5000)} {
		if !without.May(key) || with.May(key) != plainMay(with.filter, key) {
			t.Errorf("May(%.60q)", key)
		}
	}
}

// P13.4: tombs by Begin, of one Begin greater numbers first.
func TestTombs(t *testing.T) {
	want := []api.Tomb{
		{Begin: "\x00", End: "\x00\x00", Seq: 3}, {Begin: "a", End: "ab", Seq: 2}, {Begin: "m", End: "n", Seq: 8},
		{Begin: "m", End: "z", Seq: 7}, {Begin: "m", End: "q", Seq: 6}, {Begin: "ma", End: "mb", Seq: 6},
	}
	for _, l := range [][]api.Entry{nil, some()} {
		x := made(t, small, l, ranges())
		for range 2 {
			got := x.Tombs()
			if !slices.Equal(got, want) {
				t.Errorf("Tombs: %v, want %v", got, want)
			}
			// Rule 4: what was told is the caller's, its spare room too.
			for i := range got[:cap(got)] {
				got[:cap(got)][i] = api.Tomb{Begin: "changed"}
			}
		}
	}
	if l := made(t, small, some(), nil).Tombs(); len(l) != 0 {
		t.Errorf("Tombs of none: %v", l)
	}
}

// P13.5: numbers below, at and above those of a key's entries, in one block and over several.
func TestGet(t *testing.T) {
	l := []api.Entry{put("a", 9, "nine"), del("a", 7), put("a", 4, "four"), put("b", 5, "five"), del("b", 5), put("c", 0, "nought"), put("d", 1<<56-1, "greatest")}
	for _, page := range []int{16, 40, 60, 4096} {
		for _, perKey := range []int{0, 10} {
			x := made(t, api.Shape{Page: page, Restart: 2, Bits: perKey}, l, []api.Tomb{{Begin: "a", End: "z", Seq: 100}})
			for seq, want := range map[uint64]api.Entry{4: l[2], 5: l[2], 6: l[2], 7: l[1], 8: l[1], 9: l[0], 10: l[0], 1<<56 - 1: l[0], 1 << 56: l[0], math.MaxUint64: l[0]} {
				gets(t, x, "a", seq, want, true)
			}
			for seq := range uint64(4) {
				gets(t, x, "a", seq, api.Entry{}, false)
			}
			gets(t, x, "b", 4, api.Entry{}, false)
			gets(t, x, "b", 5, l[3], true)
			gets(t, x, "b", math.MaxUint64, l[3], true)
			gets(t, x, "c", 0, l[5], true)
			gets(t, x, "c", 7, l[5], true)
			gets(t, x, "d", 1<<56-2, api.Entry{}, false)
			gets(t, x, "d", 1<<56-1, l[6], true)
			gets(t, x, "d", 1<<56, l[6], true)
			gets(t, x, "d", math.MaxUint64, l[6], true)
			for _, key := range []string{"", "\x00", "A", "a\x00", "aa", "bb", "c\xff", "d\x00", "e", of(1024), of(1025), of(5000)} {
				for _, seq := range []uint64{0, 5, 1<<56 - 1, math.MaxUint64} {
					gets(t, x, key, seq, api.Entry{}, false)
				}
			}
		}
	}
}

// P13.5: a key whose name stands in the index, between two blocks, is in neither.
func TestGetBetween(t *testing.T) {
	x := made(t, small, []api.Entry{put("abcd", 3, ""), put("abzz", 9, "")}, nil)
	for _, seq := range []uint64{0, 5, 1<<56 - 2, 1<<56 - 1, math.MaxUint64} {
		gets(t, x, "abd", seq, api.Entry{}, false)
		gets(t, x, "abczz", seq, api.Entry{}, false)
		gets(t, x, "abx", seq, api.Entry{}, false)
	}
	y := made(t, small, []api.Entry{put("abcd", 3, ""), put("abd", 9, "v")}, nil)
	gets(t, y, "abd", 1<<56-1, put("abd", 9, "v"), true)
}

// P13.4, rule 4: a block's bytes are the caller's, their spare room too.
func TestBlockIsNew(t *testing.T) {
	x := made(t, api.Shape{Page: 60, Restart: 2, Bits: 10}, some(), ranges())
	for range 2 {
		if l := entriesOf(t, x); !slices.Equal(l, some()) {
			t.Errorf("entries %v", l)
		}
		for i := range x.Blocks() {
			b, _ := x.Block(i)
			for j := range b[:cap(b)] {
				b[:cap(b)][j] = 0xee
			}
		}
	}
}

// Rule 1
func TestNoTable(t *testing.T) {
	var none *Table
	for _, x := range []*Table{none, {}} {
		if x.Blocks() != 0 || x.Find(at("a", 1, 1)) != 0 || x.Find(api.IKey{}) != 0 || x.May("a") || x.May("") || len(x.Tombs()) != 0 {
			t.Error("no table tells something")
		}
		for _, i := range []int{-1, 0, 1} {
			if b, e := x.Block(i); len(b) != 0 || e != api.ErrNil {
				t.Errorf("Block(%d) of no table: error %d", i, int(e))
			}
		}
		if e, ok, err := x.Get("a", 1); e != (api.Entry{}) || ok || err != api.ErrNil {
			t.Errorf("Get of no table: %v, %t, error %d", e, ok, int(err))
		}
	}
}

// chanceEntries makes entries in their order, of few keys and numbers.
func chanceEntries(chance *rand.Rand) []api.Entry {
	var l []api.Entry
	for range chance.Intn(60) {
		e := api.Entry{Key: chanceText(chance, 1), Seq: uint64(chance.Intn(4)) << (8 * chance.Intn(7)), Kind: chance.Intn(2)}
		if e.Kind == api.KindPut {
			e.Value = chanceText(chance, 0)
		}
		l = append(l, e)
	}
	slices.SortStableFunc(l, func(a, b api.Entry) int {
		if plainBelow(plainKeyOf(a), plainKeyOf(b)) {
			return -1
		}
		if plainKeyOf(a) == plainKeyOf(b) {
			return 0
		}
		return 1
	})
	return slices.CompactFunc(l, func(a, b api.Entry) bool { return plainKeyOf(a) == plainKeyOf(b) })
}

// chanceText makes a text of few bytes, so that much is shared.
func chanceText(chance *rand.Rand, least int) string {
	b := make([]byte, least+chance.Intn(5))
	for i := range b {
		b[i] = "\x00\x01ab\xff"[chance.Intn(5)]
	}
	return string(b)
}

// chanceTombs makes tombs in no order, of one Begin and number one.
func chanceTombs(chance *rand.Rand) []api.Tomb {
	var l []api.Tomb
	for range chance.Intn(10) {
		x := api.Tomb{Begin: chanceText(chance, 1), End: chanceText(chance, 1), Seq: uint64(chance.Intn(4))}
		there := slices.ContainsFunc(l, func(y api.Tomb) bool { return y.Begin == x.Begin && y.Seq == x.Seq })
		if x.Begin < x.End && !there {
			l = append(l, x)
		}
	}
	return l
}

// P13.6: what was put is got again: all entries, all tombs, and of each key what is newest at each number; no key lies in a block that Find passes over.
func TestThereAndBack(t *testing.T) {
	chance := rand.New(rand.NewSource(1313))
	for range 1500 {
		s := api.Shape{Page: 16 + chance.Intn(150), Restart: 1 + chance.Intn(6), Bits: []int{0, 0, 1, 10}[chance.Intn(4)]}
		l, tombs := chanceEntries(chance), chanceTombs(chance)
		if len(l)+len(tombs) == 0 {
			continue
		}
		x := made(t, s, l, tombs)
		if got := entriesOf(t, x); !slices.Equal(got, l) || !slices.Equal(x.Tombs(), plainTombs(tombs)) {
			t.Fatalf("shape %v: entries %v, want %v; tombs %v", s, got, l, x.Tombs())
		}
		for _, e := range l {
			isFound(t, x, e)
			for _, seq := range []uint64{0, e.Seq - 1, e.Seq, e.Seq + 1, math.MaxUint64} {
				want, found := plainNewest(l, e.Key, seq)
				gets(t, x, e.Key, seq, want, found)
			}
			key := chanceText(chance, 1)
			want, found := plainNewest(l, key, e.Seq)
			gets(t, x, key, e.Seq, want, found)
		}
	}
}

// isFound asks for an entry in the block that Find tells.
func isFound(t *testing.T, x *Table, e api.Entry) {
	t.Helper()
	b, _ := x.Block(x.Find(plainKeyOf(e)))
	rows, _ := records(b)
	if !slices.Contains(rows, recordOf(e)) {
		t.Errorf("Find passes over %v", e)
	}
}

// P13.6: of entries with the longest keys and values.
func TestThereAndBackOfGreat(t *testing.T) {
	long := strings.Repeat("\xff", 1023)
	l := []api.Entry{put("a", 1, of(65536)), put(long+"\x00", 1<<56-1, of(65536)), del(long+"\x00", 7), put(long+"\xff", 9, of(65535)), put(long+"\xff", 0, "")}
	tombs := []api.Tomb{{Begin: long + "\xff", End: long + "\xff\x00", Seq: 1<<56 - 1}, {Begin: "\x00", End: long + "\xff\xff", Seq: 0}}
	for _, s := range []api.Shape{small, {Page: 70000, Restart: 2, Bits: 64}, {Page: 1048576, Restart: 64, Bits: 1}} {
		x := made(t, s, l, tombs)
		if !slices.Equal(entriesOf(t, x), l) || !slices.Equal(x.Tombs(), plainTombs(tombs)) {
			t.Errorf("shape %v: another table", s)
		}
		for _, e := range l {
			gets(t, x, e.Key, e.Seq, e, true)
		}
	}
}

// P13.6: of many entries, over many blocks.
func TestThereAndBackOfMany(t *testing.T) {
	var l []api.Entry
	for i := range 20000 {
		key := string([]byte{byte(i >> 12), byte(i >> 4), 'k'})
		l = append(l, put(key, uint64(100-i%16), key))
	}
	x := made(t, api.Shape{Page: 500, Restart: 16, Bits: 10}, l, nil)
	if !slices.Equal(entriesOf(t, x), l) {
		t.Error("another table")
	}
	for i := 0; i < len(l); i += 7 {
		gets(t, x, l[i].Key, l[i].Seq, l[i], true)
	}
}
