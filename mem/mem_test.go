package mem

import (
	"math"
	"math/bits"
	"math/rand"
	"slices"
	"strconv"
	"testing"

	"moraine/api"
	"moraine/skip"
)

// example is the chapter's memtable, and a plain one with the same.
func example(t *testing.T) (*Table, *plain) {
	t.Helper()
	m, p := made(t, 5)
	both(t, m, p, 1, put("a", "x"), 1)
	both(t, m, p, 2, span("a", "c"), 1)
	both(t, m, p, 3, put("b", "y"), 4)
	return m, p
}

func TestFirstExample(t *testing.T) {
	m, p := example(t)
	a := api.Entry{Key: "a", Seq: 1, Kind: api.KindPut, Value: "x"}
	b := api.Entry{Key: "b", Seq: 3, Kind: api.KindPut, Value: "y"}
	gets(t, m.Get, "a", 1, a, true)
	gets(t, m.Get, "a", 9, api.Entry{Key: "a", Seq: 2, Kind: api.KindRange}, true)
	gets(t, m.Get, "b", 9, b, true)
	gets(t, m.Get, "c", 9, api.Entry{}, false)
	sameEntries(t, "Entries", m.Entries(), []api.Entry{a, b})
	sameTombs(t, "Tombs", m.Tombs(), []api.Tomb{{Begin: "a", End: "c", Seq: 2}})
	if low, high := m.Span(); m.Len() != 3 || m.Size() != 54 || low != 1 || high != 3 {
		t.Errorf("Len %d, Size %d, Span %d, %d", m.Len(), m.Size(), low, high)
	}
	holds(t, m, p)
}

func TestSecondExample(t *testing.T) {
	m, p := example(t)
	add(t, m, 1, put("a", "z"), 1, api.ErrThere)
	add(t, m, 0, put("a", "z"), 1, api.ErrArg)
	add(t, m, 4, put("", "z"), 1, api.ErrOp)
	holds(t, m, p)
}

// P10.1: a memtable without operations, with a log of any number.
func TestNew(t *testing.T) {
	for _, log := range []int{0, 1, -1, 5, api.MaxNumber, api.MaxNumber + 1, math.MaxInt, math.MinInt} {
		m, p := made(t, log)
		holds(t, m, p)
		both(t, m, p, 1, put("a", "x"), 1)
		holds(t, m, p)
	}
	if New(1) == New(1) {
		t.Error("the same memtable twice")
	}
}

// P10.1: numbers and heights at their limits and one beyond, of each kind.
func TestNumbersAndHeights(t *testing.T) {
	m, p := made(t, 1)
	for _, op := range []api.Op{put("k", "v"), del("k"), span("k", "m")} {
		for _, seq := range []uint64{0, api.MaxSeq + 1, 1 << 57, maxWord} {
			add(t, m, seq, op, 1, api.ErrArg)
		}
		for _, height := range []int{math.MinInt, -1, 0, api.MaxHeight + 1, 1<<32 + 1, math.MaxInt} {
			add(t, m, 1, op, height, api.ErrArg)
		}
		holds(t, m, p)
	}
	for _, op := range []api.Op{put("k", "v"), del("k"), span("k", "m")} {
		both(t, m, p, api.MaxSeq, op, api.MaxHeight)
		both(t, m, p, 1, op, 1)
		both(t, m, p, 2, op, api.MaxHeight)
		both(t, m, p, api.MaxSeq-1, op, 2)
		holds(t, m, p)
	}
	if low, high := m.Span(); m.Len() != 12 || low != 1 || high != api.MaxSeq {
		t.Errorf("Len %d, Span %d, %d", m.Len(), low, high)
	}
}

// noOps are operations that may not be, each for another reason.
func noOps() []api.Op {
	return []api.Op{
		{},
		put("", "v"),
		put(of(1025), "v"),
		put("k", of(65537)),
		del(""),
		del(of(1025)),
		{Kind: api.KindDelete, Key: "k", Value: "v"},
		span("", "k"),
		span("k", ""),
		span("k", "k"),
		span("l", "k"),
		span("k\x00", "k"),
		span(of(1025), "z"),
		span("a", of(1025)),
		{Kind: 3, Key: "k", Value: "l"},
		{Kind: -1, Key: "k", Value: "l"},
		{Kind: 256, Key: "k"},
		{Kind: 257, Key: "k"},
		{Kind: api.KindSeek, Key: "k"},
		{Kind: math.MaxInt, Key: "k"},
		{Kind: math.MinInt, Key: "k"},
	}
}

// P10.1: operations that may not be.
func TestNoOperations(t *testing.T) {
	m, p := example(t)
	for _, op := range noOps() {
		add(t, m, 9, op, 1, api.ErrOp)
		holds(t, m, p)
	}
}

// P10.1: operations that just may be.
func TestGreatOperations(t *testing.T) {
	m, p := made(t, 1)
	ops := []api.Op{
		put("k", ""), put("\x00", "\x00"), put(of(1024), of(65536)), put("\xff\xfe", "\xff"),
		del("k"), del(of(1024)), del("\x00"),
		span("k", "k\x00"), span(of(1023), of(1024)), span("\x00", "\xff"), span("j", of(1024)), span(of(1024), "l"),
	}
	for i, op := range ops {
		add(t, m, uint64(i+1), op, 1+i%3, api.OK)
		p.ops = append(p.ops, numbered{uint64(i + 1), op})
		holds(t, m, p)
	}
}

// P10.1: what is there, of each kind; another kind, key or number is not the same.
func TestThere(t *testing.T) {
	m, p := made(t, 1)
	for _, op := range []api.Op{put("k", "v"), del("k"), span("k", "m")} {
		both(t, m, p, 5, op, 1)
		for _, height := range []int{1, 2, api.MaxHeight} {
			add(t, m, 5, op, height, api.ErrThere)
		}
		holds(t, m, p)
	}
	add(t, m, 5, put("k", "other"), 1, api.ErrThere)
	add(t, m, 5, put("k", ""), 1, api.ErrThere)
	for _, end := range []string{"k\x00", "l", "m", "z"} {
		add(t, m, 5, span("k", end), 1, api.ErrThere)
	}
	holds(t, m, p)
	for _, op := range []api.Op{put("k", "v"), del("k"), span("k", "m"), put("j", "v"), del("j"), span("j", "m"), put("k\x00", "v"), del("k\x00"), span("k\x00", "m")} {
		for _, seq := range []uint64{4, 5, 6} {
			both(t, m, p, seq, op, 2)
		}
		holds(t, m, p)
	}
	if m.Len() != 3*9 {
		t.Errorf("Len %d", m.Len())
	}
}

// P10.1: of several errors the first one.
func TestOrderOfErrors(t *testing.T) {
	m, p := made(t, 1)
	both(t, m, p, 5, put("k", "v"), 1)
	both(t, m, p, 5, span("k", "m"), 1)
	bad := []api.Op{put("", ""), {Kind: 7}, {Kind: api.KindDelete, Key: "k", Value: "v"}, span("k", "k")}
	for _, height := range []int{0, api.MaxHeight + 1} {
		for _, op := range bad {
			add(t, m, 0, op, height, api.ErrArg)
			add(t, m, api.MaxSeq+1, op, 1, api.ErrArg)
			add(t, m, 5, op, height, api.ErrOp)
		}
		for _, op := range []api.Op{put("k", "v"), span("k", "m")} {
			add(t, m, 5, op, height, api.ErrArg)
		}
	}
	holds(t, m, p)
	q := NewQueue(1)
	frozen := q.Active()
	add(t, frozen, 5, put("k", "v"), 1, api.OK)
	q.Freeze(2)
	for _, op := range append(bad, put("k", "v"), put("l", "v"), span("a", "b")) {
		for _, seq := range []uint64{0, 5, 6, api.MaxSeq + 1} {
			for _, height := range []int{0, 1, api.MaxHeight + 1} {
				add(t, frozen, seq, op, height, api.ErrDone)
				add(t, nil, seq, op, height, api.ErrNil)
				add(t, &Table{}, seq, op, height, api.ErrNil)
			}
		}
	}
	holds(t, frozen, &plain{log: 1, done: true, ops: []numbered{{5, put("k", "v")}}})
}

// full is a memtable with as many entries as it may have.
func full(t *testing.T) *Table {
	t.Helper()
	m := New(1)
	for i := range skip.MaxNodes {
		op := put("k", "v")
		if i%2 == 1 {
			op = del("k")
		}
		// Numbers that rise, since such entries of one key come first and are found at once.
		if e := m.Add(uint64(i/2+1), op, min(bits.TrailingZeros(uint(i+1))+1, api.MaxHeight)); e != api.OK {
			t.Fatalf("the entry %d: error %d", i+1, int(e))
		}
	}
	return m
}

// P10.1: skip.MaxNodes entries, behind which there is room for tombs alone.
func TestFull(t *testing.T) {
	m := full(t)
	const half, size = skip.MaxNodes / 2, skip.MaxNodes*17 + skip.MaxNodes/2
	for _, op := range []api.Op{put("k", "v"), del("k")} {
		add(t, m, half+1, op, 1, api.ErrFull)
		add(t, m, half, op, 1, api.ErrThere)
		add(t, m, 1, op, 1, api.ErrThere)
		add(t, m, half+1, op, 0, api.ErrArg)
		add(t, m, 0, op, 1, api.ErrArg)
	}
	add(t, m, half+1, put("", "v"), 1, api.ErrOp)
	if low, high := m.Span(); m.Len() != skip.MaxNodes || m.Size() != size || low != 1 || high != half {
		t.Errorf("Len %d, Size %d, Span %d, %d", m.Len(), m.Size(), low, high)
	}
	add(t, m, half+1, span("k", "l"), 1, api.OK)
	add(t, m, half+1, span("k", "l"), 1, api.ErrThere)
	if low, high := m.Span(); m.Len() != skip.MaxNodes+1 || m.Size() != size+18 || low != 1 || high != half+1 {
		t.Errorf("Len %d, Size %d, Span %d, %d", m.Len(), m.Size(), low, high)
	}
	gets(t, m.Get, "k", half, api.Entry{Key: "k", Seq: half, Kind: api.KindPut, Value: "v"}, true)
	gets(t, m.Get, "k", maxWord, api.Entry{Key: "k", Seq: half + 1, Kind: api.KindRange}, true)
	if l := m.Entries(); len(l) != skip.MaxNodes || l[0].Seq != half || l[0].Kind != api.KindPut || l[len(l)-1] != (api.Entry{Key: "k", Seq: 1}) {
		t.Errorf("%d entries", len(l))
	}
}

// P10.1: tombs are not counted against the limit of entries, and not gone through one by one as they come.
func TestManyTombs(t *testing.T) {
	m := New(1)
	for i := range skip.MaxNodes + 1 {
		if e := m.Add(uint64(i+1), span("k", "l"), 1); e != api.OK {
			t.Fatalf("the tomb %d: error %d", i+1, int(e))
		}
	}
	add(t, m, skip.MaxNodes+1, span("k", "l"), 1, api.ErrThere)
	add(t, m, 1, put("k", "v"), 1, api.OK)
	if l := m.Tombs(); m.Len() != skip.MaxNodes+2 || len(l) != skip.MaxNodes+1 || l[0].Seq != 1 {
		t.Errorf("Len %d, %d tombs", m.Len(), len(l))
	}
}

// P10.2: one key at a number below, just at and above the entry's and the tomb's.
func TestGet(t *testing.T) {
	entryAt := func(seq uint64) api.Entry { return api.Entry{Key: "k", Seq: seq, Kind: api.KindPut, Value: "v"} }
	tombAt := func(seq uint64) api.Entry { return api.Entry{Key: "k", Seq: seq, Kind: api.KindRange} }
	none := api.Entry{}
	for _, x := range []struct {
		entry, tomb uint64       // 0: none
		want        [8]api.Entry // at 0 to 7
	}{
		{0, 0, [8]api.Entry{}},
		{3, 0, [8]api.Entry{none, none, none, entryAt(3), entryAt(3), entryAt(3), entryAt(3), entryAt(3)}},
		{0, 3, [8]api.Entry{none, none, none, tombAt(3), tombAt(3), tombAt(3), tombAt(3), tombAt(3)}},
		{3, 3, [8]api.Entry{none, none, none, entryAt(3), entryAt(3), entryAt(3), entryAt(3), entryAt(3)}},
		{3, 5, [8]api.Entry{none, none, none, entryAt(3), entryAt(3), tombAt(5), tombAt(5), tombAt(5)}},
		{5, 3, [8]api.Entry{none, none, none, tombAt(3), tombAt(3), entryAt(5), entryAt(5), entryAt(5)}},
	} {
		m := New(1)
		if x.entry > 0 {
			add(t, m, x.entry, put("k", "v"), 1, api.OK)
		}
		if x.tomb > 0 {
			add(t, m, x.tomb, span("j", "l"), 1, api.OK)
		}
		for seq, want := range x.want {
			gets(t, m.Get, "k", uint64(seq), want, want != none)
		}
		for _, seq := range []uint64{api.MaxSeq, api.MaxSeq + 1, maxWord} {
			gets(t, m.Get, "k", seq, x.want[7], x.want[7] != none)
		}
	}
}

// P10.2: keys at Begin, right below End, at End and beyond both.
func TestGetAtBounds(t *testing.T) {
	m, p := made(t, 1)
	both(t, m, p, 4, span("b", "d"), 1)
	for _, key := range []string{"b", "b\x00", "c", "cz", "c\xff\xff", "c" + of(1023), "c" + of(1024)} {
		gets(t, m.Get, key, 4, api.Entry{Key: key, Seq: 4, Kind: api.KindRange}, true)
		gets(t, m.Get, key, 3, api.Entry{}, false)
	}
	for _, key := range []string{"", "\x00", "a", "a\xff", "d", "d\x00", "e", "\xff"} {
		gets(t, m.Get, key, maxWord, api.Entry{}, false)
	}
	holds(t, m, p)
}

// P10.2: a deletion is told as what it is; of one number the put comes first, however they came.
func TestGetKinds(t *testing.T) {
	gone, there := api.Entry{Key: "k", Seq: 3}, api.Entry{Key: "k", Seq: 3, Kind: api.KindPut, Value: "v"}
	m, p := made(t, 1)
	both(t, m, p, 3, del("k"), 1)
	gets(t, m.Get, "k", 3, gone, true)
	both(t, m, p, 3, put("k", "v"), 1)
	gets(t, m.Get, "k", 3, there, true)
	sameEntries(t, "Entries", m.Entries(), []api.Entry{there, gone})
	holds(t, m, p)
	m, p = made(t, 1)
	both(t, m, p, 3, put("k", "v"), 1)
	both(t, m, p, 3, del("k"), 1)
	both(t, m, p, 3, span("k", "l"), 1)
	gets(t, m.Get, "k", 3, there, true)
	gets(t, m.Get, "k", 2, api.Entry{}, false)
	both(t, m, p, 4, del("k"), 1)
	gets(t, m.Get, "k", 4, api.Entry{Key: "k", Seq: 4}, true)
	holds(t, m, p)
}

// P10.2: of several tombs the greatest number that is not above, whichever came first.
func TestGetOfTombs(t *testing.T) {
	m, p := made(t, 1)
	for _, x := range []numbered{{7, span("a", "m")}, {2, span("b", "z")}, {9, span("c", "d")}, {5, span("a", "c\x00")}, {4, put("c", "v")}, {8, put("c", "w")}} {
		both(t, m, p, x.seq, x.op, 1)
		holds(t, m, p)
	}
	gets(t, m.Get, "c", 9, api.Entry{Key: "c", Seq: 9, Kind: api.KindRange}, true)
	gets(t, m.Get, "c", 8, api.Entry{Key: "c", Seq: 8, Kind: api.KindPut, Value: "w"}, true)
	gets(t, m.Get, "c", 6, api.Entry{Key: "c", Seq: 5, Kind: api.KindRange}, true)
	gets(t, m.Get, "c", 4, api.Entry{Key: "c", Seq: 4, Kind: api.KindPut, Value: "v"}, true)
	gets(t, m.Get, "c", 3, api.Entry{Key: "c", Seq: 2, Kind: api.KindRange}, true)
}

// P10.3: entries in their order, tombs as they came, also those that are alike but for a number.
func TestEntriesAndTombs(t *testing.T) {
	m, p := made(t, 1)
	ops := []numbered{{3, put("b", "1")}, {9, span("x", "y")}, {7, put("b", "2")}, {3, del("b")}, {1, span("x", "z")}, {5, put("a", "")}, {1, put("b\x00", "3")}, {2, span("a", "b")}, {9, put("\xff", "4")}, {9, put("\x00", "5")}}
	for _, x := range ops {
		both(t, m, p, x.seq, x.op, 3)
	}
	sameEntries(t, "Entries", m.Entries(), []api.Entry{
		{Key: "\x00", Seq: 9, Kind: 1, Value: "5"}, {Key: "a", Seq: 5, Kind: 1}, {Key: "b", Seq: 7, Kind: 1, Value: "2"}, {Key: "b", Seq: 3, Kind: 1, Value: "1"},
		{Key: "b", Seq: 3}, {Key: "b\x00", Seq: 1, Kind: 1, Value: "3"}, {Key: "\xff", Seq: 9, Kind: 1, Value: "4"},
	})
	sameTombs(t, "Tombs", m.Tombs(), []api.Tomb{{Begin: "x", End: "y", Seq: 9}, {Begin: "x", End: "z", Seq: 1}, {Begin: "a", End: "b", Seq: 2}})
	holds(t, m, p)
}

// anyOp is an operation of few keys and values, now and then one that may not be, so that much is met again.
func anyOp(chance *rand.Rand) api.Op {
	texts := []string{"a", "a\x00", "aa", "b", "c", "\xff", "\x00"}
	key, value := texts[chance.Intn(len(texts))], texts[chance.Intn(len(texts))]
	switch chance.Intn(8) {
	case 0, 1, 2:
		return put(key, value+strconv.Itoa(chance.Intn(100)))
	case 3, 4:
		return del(key)
	case 5, 6:
		return span(min(key, value), max(key, value))
	}
	return noOps()[chance.Intn(len(noOps()))]
}

// P10.1 to P10.3, P10.9: memtables of many operations, some of them refused.
func TestManyOperations(t *testing.T) {
	chance := rand.New(rand.NewSource(10))
	for range 40 {
		m, p := made(t, chance.Int())
		for range 60 {
			both(t, m, p, uint64(chance.Intn(12)), anyOp(chance), chance.Intn(api.MaxHeight+2))
		}
		holds(t, m, p)
	}
}

// P10.7: other orders and other heights; Tombs alone tells in which order they came.
func TestOtherOrders(t *testing.T) {
	ops := []numbered{{1, put("a", "x")}, {1, put("b", "y")}, {2, del("a")}, {2, put("a", "z")}, {3, span("a", "b")}, {3, span("a\x00", "c")}, {9, put("b", "")}, {4, span("a", "z")}}
	first := &plain{log: 1, ops: ops}
	chance := rand.New(rand.NewSource(107))
	for round := range 300 {
		m, p := made(t, 1)
		for _, i := range chance.Perm(len(ops)) {
			height := []int{1, api.MaxHeight, i%api.MaxHeight + 1, 1 + chance.Intn(api.MaxHeight)}[round%4]
			both(t, m, p, ops[i].seq, ops[i].op, height)
		}
		sameEntries(t, "Entries", m.Entries(), first.entries())
		getsAs(t, m.Get, first)
		low, high := m.Span()
		if least, greatest := first.span(); low != least || high != greatest || m.Size() != first.size() || m.Len() != len(ops) {
			t.Errorf("Span %d, %d, Size %d, Len %d", low, high, m.Size(), m.Len())
		}
		holds(t, m, p)
	}
}

// P10.8: operations with greater numbers change no Get below them.
func TestGreaterNumbers(t *testing.T) {
	m, p := example(t)
	both(t, m, p, 3, del("c"), 1)
	for i, op := range []api.Op{put("a", "new"), del("b"), span("a", "d"), put("c", "new"), span("\x00", "\xff"), put("d", "new")} {
		ahead := &plain{ops: slices.Clone(p.ops)}
		seq := uint64(i + 4)
		both(t, m, p, seq, op, 1+i)
		for _, key := range askedKeys([]*plain{p}) {
			for below := range seq {
				want, there := plainGet([]*plain{ahead}, key, below)
				gets(t, m.Get, key, below, want, there)
			}
		}
		holds(t, m, p)
	}
}

// Rule 1: a memtable that is nil, and one that no call made.
func TestNoTable(t *testing.T) {
	for _, m := range []*Table{nil, {}, new(Table)} {
		add(t, m, 1, put("a", "x"), 1, api.ErrNil)
		add(t, m, 0, put("", ""), 0, api.ErrNil)
		gets(t, m.Get, "a", maxWord, api.Entry{}, false)
		gets(t, m.Get, "", 0, api.Entry{}, false)
		sameEntries(t, "Entries", m.Entries(), nil)
		sameTombs(t, "Tombs", m.Tombs(), nil)
		low, high := m.Span()
		if m.Log() != 0 || m.Len() != 0 || m.Size() != 0 || low != 0 || high != 0 || m.Cursor() != nil {
			t.Errorf("Log %d, Len %d, Size %d, Span %d, %d, Cursor %v", m.Log(), m.Len(), m.Size(), low, high, m.Cursor())
		}
	}
}

// Rule 4: what is told is memory of its own, spare room too.
func TestToldIsNewMemory(t *testing.T) {
	m, p := example(t)
	entries, tombs := m.Entries(), m.Tombs()
	others, graves := m.Entries(), m.Tombs()
	_ = append(entries[:len(entries):cap(entries)], api.Entry{Key: "spoilt"})
	_ = append(tombs[:len(tombs):cap(tombs)], api.Tomb{Begin: "spoilt"})
	for i := range entries {
		entries[i] = api.Entry{Key: "spoilt"}
	}
	for i := range tombs {
		tombs[i] = api.Tomb{Begin: "spoilt"}
	}
	sameEntries(t, "told as well", others, p.entries())
	sameTombs(t, "told as well", graves, p.tombs())
	holds(t, m, p)
	ahead := &plain{ops: slices.Clone(p.ops)}
	both(t, m, p, 7, put("a", "w"), 2)
	both(t, m, p, 8, span("b", "z"), 2)
	sameEntries(t, "told ahead of an Add", others, ahead.entries())
	sameTombs(t, "told ahead of an Add", graves, ahead.tombs())
	holds(t, m, p)
}

// Rule 4: texts whose bytes change behind the call.
func TestKeepsItsOwn(t *testing.T) {
	key, value, end := []byte("k"), []byte("v"), []byte("m")
	m := New(1)
	add(t, m, 1, put(string(key), string(value)), 1, api.OK)
	add(t, m, 2, span(string(key), string(end)), 1, api.OK)
	key[0], value[0], end[0] = 'a', 'a', 'a'
	holds(t, m, &plain{log: 1, ops: []numbered{{1, put("k", "v")}, {2, span("k", "m")}}})
}

// Two memtables have nothing in common.
func TestTablesApart(t *testing.T) {
	one, first := made(t, 1)
	other, second := made(t, 1)
	both(t, one, first, 1, put("a", "x"), 1)
	both(t, one, first, 2, span("a", "b"), 1)
	holds(t, other, second)
	both(t, other, second, 1, put("a", "y"), 2)
	both(t, other, second, 2, span("a", "c"), 2)
	holds(t, one, first)
	holds(t, other, second)
}
