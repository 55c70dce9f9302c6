package walk

import (
	"fmt"
	"math"
	"math/rand"
	"slices"
	"strconv"
	"testing"

	"moraine/api"
	"moraine/ikey"
	"moraine/table"
)

// built tells the table of entries that a builder made.
func built(t *testing.T, s api.Shape, l ...api.Entry) (*table.Table, []byte) {
	t.Helper()
	b, e := table.NewBuilder(s)
	if e != api.OK {
		t.Fatal(int(e))
	}
	for _, x := range l {
		if e := b.Add(x); e != api.OK {
			t.Fatal(int(e))
		}
	}
	file, _, e := b.Finish()
	if e != api.OK {
		t.Fatal(int(e))
	}
	x, e := table.Open(file)
	if e != api.OK {
		t.Fatal(int(e))
	}
	return x, file
}

// example is the table of the chapter's examples.
func example(t *testing.T) (*table.Table, []byte) {
	t.Helper()
	return built(t, api.Shape{Page: 16, Restart: 1}, put("a", 2), put("a", 1), del("b", 3))
}

// tells holds what a call answered, where the cursor stands now, and its error, against texts: a key with its number, or nothing.
func tells(t *testing.T, what string, ok bool, w walker, want string, e api.Errno) {
	t.Helper()
	x, here := w.Here()
	text := ""
	if here {
		text = x.Key + strconv.FormatUint(x.Seq, 10)
	}
	if text != want || ok != (want != "") || ok != here || !here && x != (api.Entry{}) || w.Err() != e {
		t.Errorf("%s: %v, at %q (%s), error %d; want %q, error %d", what, ok, text, brief(x), int(w.Err()), want, int(e))
	}
}

// Example 1
func TestExampleOne(t *testing.T) {
	x, _ := example(t)
	if x.Blocks() != 3 {
		t.Fatalf("%d blocks", x.Blocks())
	}
	c := New(x)
	tells(t, "new", false, c, "", api.OK)
	tells(t, "First", c.First(), c, "a2", api.OK)
	tells(t, "Next", c.Next(), c, "a1", api.OK)
	tells(t, "Next", c.Next(), c, "b3", api.OK)
	tells(t, "Next", c.Next(), c, "", api.OK)
	tells(t, "Prev", c.Prev(), c, "b3", api.OK)
	tells(t, "Seek a 1", c.Seek(ikey.At("a", 1)), c, "a1", api.OK)
	if e, _ := c.Here(); e != put("a", 1) {
		t.Errorf("at %s", brief(e))
	}
	tells(t, "Seek b 2", c.Seek(ikey.At("b", 2)), c, "", api.OK)
	tells(t, "Prev", c.Prev(), c, "b3", api.OK)
	if e, _ := c.Here(); e != del("b", 3) {
		t.Errorf("at %s", brief(e))
	}
}

// Example 2
func TestExampleTwo(t *testing.T) {
	x, file := example(t)
	first, _ := x.Block(0)
	file[len(first)+4+2] ^= 1
	x, e := table.Open(file)
	if e != api.OK {
		t.Fatal(int(e))
	}
	c := New(x)
	tells(t, "First", c.First(), c, "a2", api.OK)
	tells(t, "Next", c.Next(), c, "", api.ErrTable)
	tells(t, "Prev", c.Prev(), c, "b3", api.OK)
	if l, e := Entries(x); len(l) != 0 || e != api.ErrTable {
		t.Errorf("Entries: %s, error %d", brief(l), int(e))
	}
}

// several are tables of pages that rise: with none, one and many, some without entries, some that can't be read.
func several() map[string][]page {
	a, b, c := of(put("a", 9), del("a", 4)), of(put("c", 7), put("cc", 7), put("d", 1)), of(put("f", 5))
	m := map[string][]page{
		"no block":           nil,
		"one without":        {none("b")},
		"one":                {c},
		"one of three":       {b},
		"three without":      {none("a"), none("c"), none("e")},
		"three":              {a, b, c},
		"none ahead":         {none("0"), none("1"), a, b},
		"none between":       {a, none("b"), b, none("e"), none("ee"), c},
		"none behind":        {a, b, none("m"), none("n")},
		"none all about":     {none("0"), a, none("b"), c, none("n")},
		"one key, two pages": {of(put("a", 9), put("a", 8)), of(put("a", 7), del("a", 7), put("a", 6))},
	}
	for name, fault := range map[string]int{"turned": turned, "bent": bent, "short": short} {
		m[name+" alone"] = []page{b.wrong(fault)}
		m[name+" first"] = []page{a.wrong(fault), b, c}
		m[name+" in the middle"] = []page{a, b.wrong(fault), c}
		m[name+" last"] = []page{a, b, c.wrong(fault)}
		m[name+" twice"] = []page{a, b.wrong(fault), c.wrong(fault), of(put("g", 1))}
		m[name+" behind none"] = []page{none("0"), a.wrong(fault), none("b"), b, none("e")}
		m[name+" ahead of none"] = []page{a, none("b"), b.wrong(fault), none("e"), c, none("m")}
		m[name+" of none"] = []page{a, none("b").wrong(fault), b}
	}
	return m
}

// places are keys below, at, between and above those of several.
func places() []api.IKey {
	var l []api.IKey
	for _, k := range []string{"", "0", "a", "b", "c", "cc", "d", "dd", "e", "f", "m", "z"} {
		for _, seq := range []uint64{0, 1, 4, 7, 8, api.MaxSeq, math.MaxUint64} {
			l = append(l, at(k, seq), api.IKey{Key: k, Seq: seq, Kind: api.KindPut}, api.IKey{Key: k, Seq: seq, Kind: math.MinInt})
		}
	}
	return l
}

// P14.1, P14.2: each of the five calls from each place, along all ways of five calls.
func TestWays(t *testing.T) {
	for name, pages := range several() {
		x := opened(t, pages)
		fresh := func() (got, want walker) { return New(x), newPlain(pages) }
		l := append(calls(), seek(at("b", 3)), seek(at("d", 9)))
		walked(t, name, l, 5, fresh)
	}
}

// P14.1, P14.2: Seek below, at, between and above all keys, from wherever the cursor stands, and what the next calls tell.
func TestSeeks(t *testing.T) {
	for name, pages := range several() {
		x := opened(t, pages)
		got, want := New(x), newPlain(pages)
		for _, k := range places() {
			for _, c := range calls() {
				moved(t, name+" "+c.name, c, got, want)
				moved(t, name+" "+seek(k).name, seek(k), got, want)
				for _, behind := range calls() {
					moved(t, name+" "+behind.name+" behind "+seek(k).name, behind, got, want)
					moved(t, name+" "+seek(k).name, seek(k), got, want)
				}
			}
		}
	}
}

// P14.1: in the block that the index names nothing is at or above the key; then the first one behind is taken, whatever it is.
func TestSeekPastBlock(t *testing.T) {
	wide := page{key: at("m", 0), entries: []api.Entry{put("a", 1)}}
	for _, behind := range []page{of(put("n", 2)), of(put("b", 2), put("z", 1)), of(put("d", 2), put("z", 1))} {
		behind.key = at("zz", 0)
		for _, pages := range [][]page{{wide, behind}, {wide, none("n"), behind}, {none("0"), wide, none("n"), none("o"), behind, none("zzz")}} {
			c := New(opened(t, pages))
			first := behind.entries[0]
			tells(t, "Seek", c.Seek(at("c", 5)), c, first.Key+strconv.FormatUint(first.Seq, 10), api.OK)
			tells(t, "Prev", c.Prev(), c, "a1", api.OK)
		}
		c := New(opened(t, []page{wide, behind.wrong(turned)}))
		tells(t, "Seek into what is turned", c.Seek(at("c", 5)), c, "", api.ErrTable)
		tells(t, "Seek ahead of it", c.Seek(at("a", 5)), c, "a1", api.OK)
		c = New(opened(t, []page{wide}))
		tells(t, "Seek past all", c.Seek(at("c", 5)), c, "", api.OK)
		tells(t, "Prev from behind", c.Prev(), c, "a1", api.OK)
	}
}

// P14.1: no block is looked at but those that are told of.
func TestLooks(t *testing.T) {
	a, b, c, d := of(put("a", 1)), of(put("b", 1)), of(put("c", 1)), of(put("d", 1))
	pages := []page{a, b.wrong(turned), c, d.wrong(bent)}
	w := New(opened(t, pages))
	tells(t, "First", w.First(), w, "a1", api.OK)
	tells(t, "Seek c", w.Seek(at("c", 1)), w, "c1", api.OK)
	tells(t, "Seek bb", w.Seek(at("bb", 1)), w, "c1", api.OK)
	tells(t, "Seek above all", w.Seek(at("dd", 1)), w, "", api.OK)
	tells(t, "Next from behind", w.Next(), w, "", api.OK)
	tells(t, "Prev from behind", w.Prev(), w, "", api.ErrTable)
	tells(t, "Last", w.Last(), w, "", api.ErrTable)
	tells(t, "Seek c", w.Seek(at("c", 1)), w, "c1", api.OK)
	tells(t, "Prev into what is turned", w.Prev(), w, "", api.ErrTable)
	tells(t, "Next from behind", w.Next(), w, "", api.OK)
	w = New(opened(t, pages))
	tells(t, "Prev from ahead", w.Prev(), w, "", api.OK)
	tells(t, "Next from ahead", w.Next(), w, "a1", api.OK)
}

// P14.2: each of the five calls at a block that can't be read, of each kind: false, behind, ErrTable, and what the next call tells.
func TestErr(t *testing.T) {
	a, b, c := of(put("a", 1)), of(put("b", 1)), of(put("c", 1))
	stay := func(*Cursor) bool { return false }
	to := func(key string) func(w *Cursor) bool {
		return func(w *Cursor) bool { return w.Seek(at(key, 9)) }
	}
	for _, fault := range []int{turned, bent, short} {
		first, middle, last := []page{a.wrong(fault), b, c}, []page{a, b.wrong(fault), c}, []page{a, b, c.wrong(fault)}
		for _, x := range []struct {
			name  string
			pages []page
			from  func(w *Cursor) bool
			call  func(w *Cursor) bool
			prev  string // what Prev tells behind it; nothing: it meets the block again
		}{
			{"First", first, stay, (*Cursor).First, "c1"},
			{"First from within", first, (*Cursor).Last, (*Cursor).First, "c1"},
			{"Next from ahead", first, stay, (*Cursor).Next, "c1"},
			{"Prev into the first", first, to("b"), (*Cursor).Prev, "c1"},
			{"Seek in the first", first, (*Cursor).Last, to("a"), "c1"},
			{"Next", middle, (*Cursor).First, (*Cursor).Next, "c1"},
			{"Prev", middle, (*Cursor).Last, (*Cursor).Prev, "c1"},
			{"Seek", middle, (*Cursor).First, to("b"), "c1"},
			{"Last", last, (*Cursor).First, (*Cursor).Last, ""},
			{"Prev from behind", last, to("z"), (*Cursor).Prev, ""},
			{"Next into the last", last, to("b"), (*Cursor).Next, ""},
			{"Seek in the last", last, (*Cursor).First, to("bb"), ""},
		} {
			again := api.OK
			if x.prev == "" {
				again = api.ErrTable
			}
			w := New(opened(t, x.pages))
			tells(t, x.name+": new", false, w, "", api.OK)
			x.from(w)
			tells(t, x.name, x.call(w), w, "", api.ErrTable)
			tells(t, x.name+": Prev from there", w.Prev(), w, x.prev, again)
			w = New(opened(t, x.pages))
			x.from(w)
			tells(t, x.name+" again", x.call(w), w, "", api.ErrTable)
			tells(t, x.name+": Next from there", w.Next(), w, "", api.OK)
			tells(t, x.name+": Prev from behind", w.Prev(), w, x.prev, again)
			tells(t, x.name+": Seek behind all", w.Seek(at("z", 1)), w, "", api.OK)
		}
	}
}

// P14.1, P14.3, rule 1: no table, and one that no call gave.
func TestNoTable(t *testing.T) {
	for _, x := range []*table.Table{nil, {}} {
		if New(x) != nil {
			t.Error("a cursor over no table")
		}
		if l, e := Entries(x); len(l) != 0 || e != api.ErrNil {
			t.Errorf("Entries of no table: %s, error %d", brief(l), int(e))
		}
	}
}

// P14.2, rule 1: cursors and rows that are nil, or that no call gave.
func TestNoCursor(t *testing.T) {
	for _, w := range []walker{(*Cursor)(nil), &Cursor{}, New(nil), (*Row)(nil), &Row{}} {
		for range 2 {
			tells(t, "new", false, w, "", api.ErrNil)
			for _, c := range append(calls(), seek(at("a", 1)), seek(api.IKey{})) {
				tells(t, c.name, c.of(w), w, "", api.ErrNil)
			}
		}
	}
}

// P14.3, P14.5: from First with Next, and from Last with Prev, as many as can be read.
func TestEntries(t *testing.T) {
	for name, pages := range several() {
		x := opened(t, pages)
		var want []api.Entry
		e := api.OK
		for _, p := range pages {
			want = append(want, p.entries...)
			if p.fault != whole {
				e = api.ErrTable
			}
		}
		if e != api.OK {
			want = nil
		}
		l, got := Entries(x)
		if !slices.Equal(l, want) || got != e {
			t.Errorf("%s: %s, error %d; want %s, error %d", name, brief(l), int(got), brief(want), int(e))
		}
		if e == api.OK {
			bothWays(t, name, New(x), want)
		}
	}
}

// bothWays goes through a cursor's entries from either end, and turns about at each.
func bothWays(t *testing.T, what string, w walker, l []api.Entry) {
	t.Helper()
	var up, down []api.Entry
	for ok := w.First(); ok; ok = w.Next() {
		x, _ := w.Here()
		up = append(up, x)
	}
	for ok := w.Last(); ok; ok = w.Prev() {
		x, _ := w.Here()
		down = append(down, x)
	}
	slices.Reverse(down)
	if !slices.Equal(up, l) || !slices.Equal(down, l) {
		t.Errorf("%s: %s and %s, want %s", what, brief(up), brief(down), brief(l))
	}
	w.Seek(api.IKey{})
	for i, x := range l {
		if here, ok := w.Here(); !ok || here != x {
			t.Fatalf("%s: at %s, want %s", what, brief(here), brief(x))
		}
		if i > 0 && (!w.Prev() || !w.Next()) || i < len(l)-1 && (!w.Next() || !w.Prev()) {
			t.Fatalf("%s: no way back to %s", what, brief(x))
		}
		if here, ok := w.Here(); !ok || here != x {
			t.Fatalf("%s: back at %s, want %s", what, brief(here), brief(x))
		}
		w.Next()
	}
	if w.Err() != api.OK {
		t.Errorf("%s: error %d", what, int(w.Err()))
	}
}

// Rule 4: what Entries told is new memory, and shares none with the table.
func TestEntriesAreNew(t *testing.T) {
	x, file := example(t)
	one, _ := Entries(x)
	two, _ := Entries(x)
	for i := range one[:cap(one)] {
		one[:cap(one)][i] = put("changed", 1)
	}
	clear(file)
	want := []api.Entry{put("a", 2), put("a", 1), del("b", 3)}
	three, e := Entries(x)
	if !slices.Equal(two, want) || !slices.Equal(three, want) || e != api.OK {
		t.Errorf("%s and %s, error %d", brief(two), brief(three), int(e))
	}
	for _, y := range two[len(two):cap(two)] {
		if y != (api.Entry{}) {
			t.Errorf("in the spare room: %s", brief(y))
		}
	}
}

// Cursors over one table are apart.
func TestCursorsApart(t *testing.T) {
	x, _ := example(t)
	one, two := New(x), New(x)
	tells(t, "First", one.First(), one, "a2", api.OK)
	tells(t, "the other", false, two, "", api.OK)
	tells(t, "Last", two.Last(), two, "b3", api.OK)
	tells(t, "Next", one.Next(), one, "a1", api.OK)
	tells(t, "Prev", two.Prev(), two, "a1", api.OK)
	tells(t, "Next", one.Next(), one, "b3", api.OK)
	tells(t, "Prev", two.Prev(), two, "a2", api.OK)
}

// chanceEntries makes entries of few keys, in their order.
func chanceEntries(chance *rand.Rand, most int) []api.Entry {
	var l []api.Entry
	for range chance.Intn(most + 1) {
		key := string("abc"[chance.Intn(3)]) + "\x00zx"[:chance.Intn(4)]
		x := put(key, uint64(chance.Intn(6)))
		if chance.Intn(3) == 0 {
			x = del(key, x.Seq)
		}
		l = append(l, x)
	}
	slices.SortFunc(l, func(a, b api.Entry) int {
		if plainBelow(keyOf(a), keyOf(b)) {
			return -1
		}
		return 1
	})
	return slices.CompactFunc(l, func(a, b api.Entry) bool { return keyOf(a) == keyOf(b) })
}

func chanceKey(chance *rand.Rand) api.IKey {
	kinds := []int{api.KindDelete, api.KindPut, api.KindSeek}
	return api.IKey{Key: string("abcd"[chance.Intn(4)]) + "\x00zx"[:chance.Intn(4)], Seq: uint64(chance.Intn(7)), Kind: kinds[chance.Intn(3)]}
}

// chancePages makes pages with any entries, whose keys in the index rise but need not fit them, and of which some can't be read.
func chancePages(chance *rand.Rand, faults int) []page {
	var pages []page
	for i := range chance.Intn(6) {
		p := page{key: at(fmt.Sprintf("%c%d", 'a'+i/2, i), 3), entries: chanceEntries(chance, 4)}
		if chance.Intn(10) < faults {
			p.fault = 1 + chance.Intn(3)
		}
		pages = append(pages, p)
	}
	return pages
}

// P14.1, P14.2: tables of any pages, walked at random.
func TestChance(t *testing.T) {
	chance := rand.New(rand.NewSource(14))
	for range 1500 {
		pages := chancePages(chance, chance.Intn(4))
		got, want := New(opened(t, pages)), newPlain(pages)
		path := brief(pages)
		for range 60 {
			c := seek(chanceKey(chance))
			if i := chance.Intn(8); i < 4 {
				c = calls()[i]
			} else if i < 6 {
				c = calls()[i-2]
			}
			moved(t, path+" "+c.name, c, got, want)
		}
	}
}

// P14.6: of a table that was built Seek stands at what Get tells.
func TestSeekIsGet(t *testing.T) {
	chance := rand.New(rand.NewSource(146))
	told := 0
	for range 300 {
		l := chanceEntries(chance, 30)
		if len(l) == 0 {
			continue
		}
		x, _ := built(t, api.Shape{Page: 16 + chance.Intn(100), Restart: 1 + chance.Intn(4), Bits: 10 * chance.Intn(2)}, l...)
		c := New(x)
		bothWays(t, "built", c, l)
		for range 100 {
			k := chanceKey(chance)
			e, found, _ := x.Get(k.Key, k.Seq)
			if !found {
				continue
			}
			told++
			ok := c.Seek(ikey.At(k.Key, k.Seq))
			if here, _ := c.Here(); !ok || here != e {
				t.Fatalf("Seek of %s: %v, stands at %s, want %s", brief(k), ok, brief(here), brief(e))
			}
		}
	}
	if told < 1000 {
		t.Errorf("Get told but %d", told)
	}
}

// P14.1: very many blocks without entries are passed one by one, both ways.
func TestManyWithout(t *testing.T) {
	pages := []page{of(put("a", 1))}
	for i := range 20000 {
		pages = append(pages, none(fmt.Sprintf("b%06d", i)))
	}
	pages = append(pages, of(put("c", 1)))
	c := New(opened(t, pages))
	tells(t, "First", c.First(), c, "a1", api.OK)
	tells(t, "Next", c.Next(), c, "c1", api.OK)
	tells(t, "Prev", c.Prev(), c, "a1", api.OK)
	tells(t, "Seek", c.Seek(at("b", 1)), c, "c1", api.OK)
}
