package mem

import (
	"math"
	"math/rand"
	"strconv"
	"testing"

	"moraine/api"
)

// stands holds what a cursor's call answered, and where it stands, against a text: a key with its number, or nothing.
func stands(t *testing.T, what string, ok bool, c *Cursor, want string) {
	t.Helper()
	x, here := c.Here()
	text := ""
	if here {
		text = x.Key + strconv.FormatUint(x.Seq, 10)
	}
	if text != want || ok != here || ok != (want != "") || !here && x != (api.Entry{}) {
		t.Errorf("%s: %v, stands at %q (%v, %v), want %q", what, ok, text, x, here, want)
	}
}

// bdf has the entries b, d and f, and a tomb over them, of which a cursor tells nothing.
func bdf(t *testing.T) *Table {
	t.Helper()
	m := New(1)
	for i, key := range []string{"b", "d", "f"} {
		add(t, m, 5, put(key, "of "+key), i+1, api.OK)
	}
	add(t, m, 9, span("a", "z"), 1, api.OK)
	return m
}

// P10.4: a new one stands ahead; past both ends and back.
func TestWalk(t *testing.T) {
	c := bdf(t).Cursor()
	stands(t, "new", false, c, "")
	stands(t, "Prev from ahead", c.Prev(), c, "")
	stands(t, "Prev from ahead again", c.Prev(), c, "")
	for _, want := range []string{"b5", "d5", "f5", "", "", ""} {
		stands(t, "Next", c.Next(), c, want)
	}
	for _, want := range []string{"f5", "d5", "b5", "", "", ""} {
		stands(t, "Prev", c.Prev(), c, want)
	}
	stands(t, "Next", c.Next(), c, "b5")
	stands(t, "Next", c.Next(), c, "d5")
	stands(t, "Prev", c.Prev(), c, "b5")
	stands(t, "Last", c.Last(), c, "f5")
	stands(t, "Next from the last one", c.Next(), c, "")
	stands(t, "First", c.First(), c, "b5")
	stands(t, "Prev from the first one", c.Prev(), c, "")
	stands(t, "Next from ahead", c.Next(), c, "b5")
	if x, ok := c.Here(); !ok || x != (api.Entry{Key: "b", Seq: 5, Kind: api.KindPut, Value: "of b"}) {
		t.Errorf("Here: %v, %v", x, ok)
	}
}

// P10.4: Seek of what is there, what lies between, below and above all, also of keys that are none.
func TestSeek(t *testing.T) {
	m := bdf(t)
	add(t, m, 7, put("d", "newer"), 1, api.OK)
	add(t, m, 5, del("d"), 2, api.OK)
	add(t, m, 3, put("d", "older"), 3, api.OK)
	c := m.Cursor()
	for _, x := range []struct {
		key  api.IKey
		want string
		kind int
	}{
		{api.IKey{}, "b5", 1},
		{api.IKey{Key: "a", Seq: 9, Kind: 1}, "b5", 1},
		{api.IKey{Key: "b", Seq: 6, Kind: 1}, "b5", 1},
		{api.IKey{Key: "b", Seq: 5, Kind: 255}, "b5", 1},
		{api.IKey{Key: "b", Seq: 5, Kind: 1}, "b5", 1},
		{api.IKey{Key: "b", Seq: 5, Kind: 0}, "d7", 1},
		{api.IKey{Key: "b", Seq: 4, Kind: 255}, "d7", 1},
		{api.IKey{Key: "c", Seq: 5, Kind: 1}, "d7", 1},
		{api.IKey{Key: "d", Seq: maxWord, Kind: math.MaxInt}, "d7", 1},
		{api.IKey{Key: "d", Seq: 7, Kind: 1}, "d7", 1},
		{api.IKey{Key: "d", Seq: 6, Kind: 255}, "d5", 1},
		{api.IKey{Key: "d", Seq: 5, Kind: 2}, "d5", 1},
		{api.IKey{Key: "d", Seq: 5, Kind: 0}, "d5", 0},
		{api.IKey{Key: "d", Seq: 5, Kind: -1}, "d3", 1},
		{api.IKey{Key: "d", Seq: 3, Kind: 1}, "d3", 1},
		{api.IKey{Key: "d", Seq: 3, Kind: math.MinInt}, "f5", 1},
		{api.IKey{Key: "d", Seq: 0, Kind: 0}, "f5", 1},
		{api.IKey{Key: "d\x00", Seq: 9, Kind: 255}, "f5", 1},
		{api.IKey{Key: "f", Seq: 5, Kind: 0}, "", 0},
		{api.IKey{Key: "g", Seq: 9, Kind: 255}, "", 0},
		{api.IKey{Key: of(1025), Seq: 1 << 60, Kind: 77}, "", 0},
	} {
		stands(t, "Seek", c.Seek(x.key), c, x.want)
		if at, _ := c.Here(); at.Kind != x.kind {
			t.Errorf("Seek(%v): kind %d", x.key, at.Kind)
		}
	}
	stands(t, "Prev behind a Seek above all", c.Prev(), c, "f5")
	c.Seek(api.IKey{Key: "z"})
	stands(t, "Next behind a Seek above all", c.Next(), c, "")
}

// P10.4: over nothing, from ahead and from behind, and what comes then.
func TestWalkOverNothing(t *testing.T) {
	m := New(1)
	add(t, m, 1, span("a", "z"), 1, api.OK)
	toBehind := func() *Cursor {
		c := m.Cursor()
		stands(t, "First of nothing", c.First(), c, "")
		return c
	}
	toAhead := func() *Cursor {
		c := toBehind()
		stands(t, "Last of nothing", c.Last(), c, "")
		return c
	}
	next, prev, sought, still := m.Cursor(), toBehind(), m.Cursor(), toAhead()
	stands(t, "Next from ahead", next.Next(), next, "")
	stands(t, "Prev from behind", prev.Prev(), prev, "")
	stands(t, "Seek", sought.Seek(api.IKey{}), sought, "")
	stands(t, "Prev from ahead", still.Prev(), still, "")
	fresh, behind, ahead := m.Cursor(), toBehind(), toAhead()
	add(t, m, 2, put("k", "v"), 1, api.OK)
	for i, c := range []*Cursor{next, behind, sought} {
		stands(t, "Next from behind "+strconv.Itoa(i), c.Next(), c, "")
		stands(t, "Prev from behind "+strconv.Itoa(i), c.Prev(), c, "k2")
	}
	for i, c := range []*Cursor{fresh, prev, ahead, still} {
		stands(t, "Prev from ahead "+strconv.Itoa(i), c.Prev(), c, "")
		stands(t, "Next from ahead "+strconv.Itoa(i), c.Next(), c, "k2")
	}
}

// P10.4: entries that come meanwhile, ahead of the place where it stands, right beside it and at the ends.
func TestWalkMeanwhile(t *testing.T) {
	m := bdf(t)
	c := m.Cursor()
	c.Seek(api.IKey{Key: "d", Seq: api.MaxSeq})
	for i, key := range []string{"c", "e", "d"} {
		add(t, m, 6, put(key, ""), i+1, api.OK)
		add(t, m, 4, put(key, ""), i+4, api.OK)
		stands(t, "stays", true, c, "d5")
	}
	for _, want := range []string{"d4", "e6"} {
		stands(t, "Next", c.Next(), c, want)
	}
	for _, want := range []string{"d4", "d5", "d6", "c4", "c6", "b5"} {
		stands(t, "Prev", c.Prev(), c, want)
	}
	add(t, m, 5, put("a", ""), 1, api.OK)
	stands(t, "Prev to a new first one", c.Prev(), c, "a5")
	stands(t, "Prev", c.Prev(), c, "")
	add(t, m, 5, put("A", ""), 1, api.OK)
	stands(t, "Prev from ahead", c.Prev(), c, "")
	stands(t, "Next from ahead to a new first one", c.Next(), c, "A5")
	stands(t, "Last", c.Last(), c, "f5")
	add(t, m, 5, put("g", ""), 1, api.OK)
	stands(t, "Next to a new last one", c.Next(), c, "g5")
	stands(t, "Next", c.Next(), c, "")
	add(t, m, 5, put("h", ""), 1, api.OK)
	stands(t, "Next from behind", c.Next(), c, "")
	stands(t, "Prev from behind to a new last one", c.Prev(), c, "h5")
}

// P10.4: each cursor stands for itself.
func TestCursorsApart(t *testing.T) {
	m := bdf(t)
	one, other := m.Cursor(), m.Cursor()
	if one == other {
		t.Fatal("the same cursor twice")
	}
	stands(t, "one", one.Last(), one, "f5")
	stands(t, "other", false, other, "")
	stands(t, "other", other.Next(), other, "b5")
	stands(t, "one", one.Prev(), one, "d5")
	stands(t, "other stays", true, other, "b5")
}

// P10.4: over a memtable that is frozen, and then dropped.
func TestWalkFrozen(t *testing.T) {
	q := NewQueue(1)
	m := q.Active()
	for _, key := range []string{"b", "d", "f"} {
		add(t, m, 5, put(key, ""), 2, api.OK)
	}
	c := m.Cursor()
	stands(t, "First", c.First(), c, "b5")
	q.Freeze(2)
	add(t, q.Active(), 6, put("c", ""), 2, api.OK)
	stands(t, "Next over a frozen one", c.Next(), c, "d5")
	q.Drop()
	stands(t, "stays", true, c, "d5")
	for _, want := range []string{"f5", ""} {
		stands(t, "Next over a dropped one", c.Next(), c, want)
	}
	stands(t, "Prev", c.Prev(), c, "f5")
	stands(t, "Seek", c.Seek(api.IKey{Key: "c"}), c, "d5")
	stands(t, "First", c.First(), c, "b5")
	late := m.Cursor()
	stands(t, "a late one", late.Last(), late, "f5")
}

// Rule 1: a cursor that is nil, and one that no call made.
func TestNoCursor(t *testing.T) {
	for _, c := range []*Cursor{nil, {}, new(Cursor), (*Table)(nil).Cursor(), (&Table{}).Cursor()} {
		for range 2 {
			if c.First() || c.Last() || c.Seek(api.IKey{}) || c.Seek(api.IKey{Key: "a", Seq: 1, Kind: 1}) || c.Next() || c.Prev() {
				t.Error("stands at one")
			}
			stands(t, "none", false, c, "")
		}
	}
}

// move moves a cursor and a plain one by the same call.
func move(chance *rand.Rand, c *Cursor, p *plainCursor) (what string, got, want bool) {
	switch chance.Intn(12) {
	case 0:
		return "First", c.First(), p.first()
	case 1:
		return "Last", c.Last(), p.last()
	case 2:
		op := anyOp(chance)
		k := api.IKey{Key: op.Key, Seq: uint64(chance.Intn(12)), Kind: []int{0, 1, 2, 255, -1}[chance.Intn(5)]}
		return "Seek", c.Seek(k), p.seek(k)
	case 3, 4, 5, 6:
		return "Prev", c.Prev(), p.prev()
	}
	return "Next", c.Next(), p.next()
}

// P10.4, P10.9: any calls, with entries that come between them.
func TestAnyWalk(t *testing.T) {
	chance := rand.New(rand.NewSource(104))
	for range 300 {
		m, p := made(t, 1)
		c, plain := m.Cursor(), &plainCursor{over: p}
		rare := 1 + chance.Intn(8)
		for range 80 {
			if chance.Intn(rare) == 0 {
				both(t, m, p, uint64(chance.Intn(12)), anyOp(chance), 1+chance.Intn(4))
			}
			what, got, want := move(chance, c, plain)
			x, here := c.Here()
			if got != want || here != plain.there || x != plain.here {
				t.Fatalf("%s: %v, stands at %v, %v, want %v, %v", what, got, x, here, want, plain.here)
			}
		}
		walks(t, m, p)
	}
}
