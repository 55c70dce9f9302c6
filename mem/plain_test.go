package mem

import (
	"slices"
	"strings"
	"testing"

	"moraine/api"
)

// What the chapter says, word by word and without the package's own functions: the tests hold the package against it.

const maxWord = 1<<64 - 1

func put(key, value string) api.Op { return api.Op{Kind: api.KindPut, Key: key, Value: value} }

func del(key string) api.Op { return api.Op{Kind: api.KindDelete, Key: key} }

func span(begin, end string) api.Op { return api.Op{Kind: api.KindRange, Key: begin, Value: end} }

// of makes a text of so many bytes.
func of(size int) string { return strings.Repeat("k", size) }

// numbered is an operation with its number.
type numbered struct {
	seq uint64
	op  api.Op
}

// plain is a memtable: its operations, in the order in which they came.
type plain struct {
	log  int
	done bool
	ops  []numbered
}

func plainMayBe(o api.Op) bool {
	if len(o.Key) == 0 || len(o.Key) > 1024 {
		return false
	}
	isDelete := o.Kind == 0 && len(o.Value) == 0
	isPut := o.Kind == 1 && len(o.Value) <= 65536
	isRange := o.Kind == 2 && len(o.Value) > 0 && len(o.Value) <= 1024 && strings.Compare(o.Key, o.Value) == -1
	return isDelete || isPut || isRange
}

func (p *plain) add(seq uint64, o api.Op, height int) api.Errno {
	switch {
	case p.done:
		return api.ErrDone
	case seq == 0 || seq > 72057594037927935:
		return api.ErrArg
	case !plainMayBe(o):
		return api.ErrOp
	case height <= 0 || height > 12:
		return api.ErrArg
	}
	for _, x := range p.ops {
		if x.seq == seq && x.op.Kind == o.Kind && x.op.Key == o.Key {
			return api.ErrThere
		}
	}
	p.ops = append(p.ops, numbered{seq, o})
	return api.OK
}

// plainOrder is the order of entries.
func plainOrder(a, b api.Entry) int {
	switch {
	case a.Key != b.Key:
		return strings.Compare(a.Key, b.Key)
	case a.Seq > b.Seq:
		return -1
	case a.Seq < b.Seq:
		return 1
	}
	return b.Kind - a.Kind
}

func (p *plain) entries() []api.Entry {
	var out []api.Entry
	for _, x := range p.ops {
		if x.op.Kind != api.KindRange {
			out = append(out, api.Entry{Key: x.op.Key, Seq: x.seq, Kind: x.op.Kind, Value: x.op.Value})
		}
	}
	slices.SortStableFunc(out, plainOrder)
	return out
}

func (p *plain) tombs() []api.Tomb {
	var out []api.Tomb
	for _, x := range p.ops {
		if x.op.Kind == api.KindRange {
			out = append(out, api.Tomb{Begin: x.op.Key, End: x.op.Value, Seq: x.seq})
		}
	}
	return out
}

func (p *plain) size() int {
	size := 0
	for _, x := range p.ops {
		size += 16 + len(x.op.Key) + len(x.op.Value)
	}
	return size
}

func (p *plain) span() (low, high uint64) {
	var seqs []uint64
	for _, x := range p.ops {
		seqs = append(seqs, x.seq)
	}
	if len(seqs) == 0 {
		return 0, 0
	}
	return slices.Min(seqs), slices.Max(seqs)
}

// plainGet is P10.2 of memtables together, P10.6's first one first.
func plainGet(l []*plain, key string, seq uint64) (api.Entry, bool) {
	var entries []api.Entry
	var seqs []uint64
	for _, p := range l {
		for _, x := range p.entries() {
			if x.Key == key && x.Seq <= seq {
				entries = append(entries, x)
			}
		}
		for _, t := range p.tombs() {
			if strings.Compare(key, t.Begin) >= 0 && strings.Compare(key, t.End) == -1 && t.Seq <= seq {
				seqs = append(seqs, t.Seq)
			}
		}
	}
	slices.SortStableFunc(entries, plainOrder)
	slices.Sort(seqs)
	if len(seqs) > 0 && (len(entries) == 0 || seqs[len(seqs)-1] > entries[0].Seq) {
		return api.Entry{Key: key, Seq: seqs[len(seqs)-1], Kind: api.KindRange}, true
	}
	if len(entries) > 0 {
		return entries[0], true
	}
	return api.Entry{}, false
}

// plainCursor stands at what it was told last (there), else ahead or behind.
type plainCursor struct {
	over   *plain
	there  bool
	behind bool
	here   api.Entry
}

// to puts it to a place of a list, or beyond one of its ends.
func (c *plainCursor) to(l []api.Entry, place int) bool {
	c.there, c.behind, c.here = place >= 0 && place < len(l), place >= len(l) && place >= 0, api.Entry{}
	if c.there {
		c.here = l[place]
	}
	return c.there
}

// place is that of the first one that is not below an entry.
func place(l []api.Entry, x api.Entry) int {
	at := 0
	for at < len(l) && plainOrder(l[at], x) < 0 {
		at++
	}
	return at
}

func (c *plainCursor) first() bool { return c.to(c.over.entries(), 0) }

func (c *plainCursor) last() bool {
	l := c.over.entries()
	return c.to(l, len(l)-1)
}

func (c *plainCursor) seek(k api.IKey) bool {
	l := c.over.entries()
	return c.to(l, place(l, api.Entry{Key: k.Key, Seq: k.Seq, Kind: k.Kind}))
}

func (c *plainCursor) next() bool {
	l := c.over.entries()
	switch {
	case c.there:
		return c.to(l, place(l, c.here)+1)
	case c.behind:
		return false
	}
	return c.to(l, 0)
}

func (c *plainCursor) prev() bool {
	l := c.over.entries()
	switch {
	case c.there:
		return c.to(l, place(l, c.here)-1)
	case c.behind:
		return c.to(l, len(l)-1)
	}
	return false
}

// plainQueue has the active one first, then the frozen ones, the last one frozen first.
type plainQueue []*plain

func (q *plainQueue) freeze(log int) api.Errno {
	if log <= (*q)[0].log {
		return api.ErrArg
	}
	(*q)[0].done = true
	*q = append(plainQueue{{log: log}}, *q...)
	return api.OK
}

func (q *plainQueue) drop() api.Errno {
	if len(*q) == 1 {
		return api.ErrArg
	}
	*q = (*q)[:len(*q)-1]
	return api.OK
}

// add holds an Add against an error.
func add(t *testing.T, m *Table, seq uint64, o api.Op, height int, want api.Errno) {
	t.Helper()
	if e := m.Add(seq, o, height); e != want {
		t.Errorf("Add(%d, %.60v, %d): error %d, want %d", seq, o, height, int(e), int(want))
	}
}

// both adds to a memtable and to a plain one.
func both(t *testing.T, m *Table, p *plain, seq uint64, o api.Op, height int) {
	t.Helper()
	add(t, m, seq, o, height, p.add(seq, o, height))
}

// made is an empty memtable, and a plain one.
func made(t *testing.T, log int) (*Table, *plain) {
	t.Helper()
	m := New(log)
	if m == nil {
		t.Fatal("no memtable")
	}
	return m, &plain{log: log}
}

func sameEntries(t *testing.T, what string, got, want []api.Entry) {
	t.Helper()
	if !slices.Equal(got, want) {
		t.Errorf("%s: %.600v, want %.600v", what, got, want)
	}
}

func sameTombs(t *testing.T, what string, got, want []api.Tomb) {
	t.Helper()
	if !slices.Equal(got, want) {
		t.Errorf("%s: %.600v, want %.600v", what, got, want)
	}
}

// gets holds a Get against what is asked for.
func gets(t *testing.T, get func(string, uint64) (api.Entry, bool), key string, seq uint64, want api.Entry, there bool) {
	t.Helper()
	if x, ok := get(key, seq); x != want || ok != there {
		t.Errorf("Get(%.60q, %d) = %.60v, %v, want %.60v, %v", key, seq, x, ok, want, there)
	}
}

// askedSeqs are the numbers next to those that tables have, and the greatest ones.
func askedSeqs(l []*plain) []uint64 {
	out := []uint64{0, 1, api.MaxSeq - 1, api.MaxSeq, api.MaxSeq + 1, maxWord}
	for _, p := range l {
		for _, x := range p.ops {
			out = append(out, x.seq-1, x.seq, x.seq+1)
		}
	}
	slices.Sort(out)
	return slices.Compact(out)
}

// askedKeys are the keys and bounds that tables have, what lies right behind them, and some others.
func askedKeys(l []*plain) []string {
	out := []string{"", "\x00", "a", "bb", "\xff\xff", of(1024), of(1025)}
	for _, p := range l {
		for _, x := range p.ops {
			out = append(out, x.op.Key, x.op.Key+"\x00")
			if x.op.Kind == api.KindRange {
				end := x.op.Value
				// Right below an End lies, at its last byte one less, what has great bytes behind.
				below := end[:len(end)-1]
				if last := end[len(end)-1]; last > 0 {
					below += string([]byte{last - 1, 0xff, 0xff})
				}
				out = append(out, end, below)
			}
		}
	}
	slices.Sort(out)
	return slices.Compact(out)
}

// getsAs holds a Get against that of plain ones, of all keys and numbers that may matter.
func getsAs(t *testing.T, get func(string, uint64) (api.Entry, bool), l ...*plain) {
	t.Helper()
	seqs := askedSeqs(l)
	for _, key := range askedKeys(l) {
		for _, seq := range seqs {
			want, there := plainGet(l, key, seq)
			gets(t, get, key, seq, want, there)
		}
	}
}

// holds holds all that a memtable tells against a plain one.
func holds(t *testing.T, m *Table, p *plain) {
	t.Helper()
	sameEntries(t, "Entries", m.Entries(), p.entries())
	sameTombs(t, "Tombs", m.Tombs(), p.tombs())
	if m.Log() != p.log || m.Len() != len(p.ops) || m.Size() != p.size() {
		t.Errorf("Log %d, Len %d, Size %d, want %d, %d, %d", m.Log(), m.Len(), m.Size(), p.log, len(p.ops), p.size())
	}
	low, high := m.Span()
	if least, greatest := p.span(); low != least || high != greatest {
		t.Errorf("Span %d, %d, want %d, %d", low, high, least, greatest)
	}
	getsAs(t, m.Get, p)
	walks(t, m, p)
}

// walks holds the two walks over all entries against a plain memtable: P10.9.
func walks(t *testing.T, m *Table, p *plain) {
	t.Helper()
	l := p.entries()
	c := m.Cursor()
	sameEntries(t, "from First with Next", told(c, c.First, c.Next), l)
	sameEntries(t, "from ahead with Next", told(m.Cursor(), nil, nil), l)
	slices.Reverse(l)
	sameEntries(t, "from Last with Prev", told(c, c.Last, c.Prev), l)
}

// told is what a cursor tells from a start on; a new one goes with Next.
func told(c *Cursor, start, step func() bool) []api.Entry {
	if start == nil {
		start, step = c.Next, c.Next
	}
	var out []api.Entry
	for ok := start(); ok; ok = step() {
		x, here := c.Here()
		if !here {
			return append(out, api.Entry{Value: "stands at none"})
		}
		out = append(out, x)
	}
	if x, here := c.Here(); here || x != (api.Entry{}) {
		return append(out, api.Entry{Value: "stands at one"})
	}
	return out
}

// queueHolds holds all that a queue tells against plain memtables.
func queueHolds(t *testing.T, q *Queue, l plainQueue) {
	t.Helper()
	tables := q.Tables()
	if len(tables) != len(l) || q.Frozen() != len(l)-1 {
		t.Fatalf("%d tables, %d frozen, want %d", len(tables), q.Frozen(), len(l))
	}
	for i, m := range tables {
		holds(t, m, l[i])
	}
	if q.Active() != tables[0] || q.Active() != q.Active() {
		t.Error("another one is active")
	}
	oldest, ok := q.Oldest()
	if ok != (len(l) > 1) || ok && oldest != tables[len(l)-1] || !ok && oldest != nil {
		t.Errorf("Oldest: %v, %v", oldest, ok)
	}
	getsAs(t, q.Get, l...)
}
