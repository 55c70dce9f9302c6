package block

import (
	"math"
	"math/rand"
	"strconv"
	"testing"

	"moraine/api"
	"moraine/ikey"
)

// opened makes a cursor over a block with these entries.
func opened(t *testing.T, l []entry, restart int) *Cursor {
	t.Helper()
	c, e := Open(plainBytes(l, restart))
	if c == nil || e != api.OK || c.Len() != len(l) {
		t.Fatalf("Open: error %d, Len %d", int(e), c.Len())
	}
	return c
}

// stands holds what a cursor's call answered, and where it stands, against a text: a key with its number, or nothing.
func stands(t *testing.T, what string, ok bool, c *Cursor, want string) {
	t.Helper()
	k, value, here := c.Here()
	text := ""
	if here {
		text = k.Key + strconv.FormatUint(k.Seq, 10)
	}
	if text != want || ok != here || ok != (want != "") || !here && (k != (api.IKey{}) || value != "") {
		t.Errorf("%s: %v, stands at %q (%v, %q, %v), want %q", what, ok, text, k, value, here, want)
	}
}

func bdf() []entry {
	return []entry{{put("b", 5), "of b"}, {put("d", 5), "of d"}, {put("f", 5), "of f"}}
}

// P11.3: a new one stands ahead; past both ends and back.
func TestWalk(t *testing.T) {
	for _, restart := range []int{1, 2, 3} {
		c := opened(t, bdf(), restart)
		stands(t, "new", false, c, "")
		stands(t, "Prev from ahead", c.Prev(), c, "")
		stands(t, "Prev from ahead again", c.Prev(), c, "")
		for _, want := range []string{"b5", "d5", "f5", "", "", ""} {
			stands(t, "Next", c.Next(), c, want)
		}
		for _, want := range []string{"f5", "d5", "b5", "", "", ""} {
			stands(t, "Prev", c.Prev(), c, want)
		}
		stands(t, "Next", c.Next(), c, "b5")
		stands(t, "Next", c.Next(), c, "d5")
		stands(t, "Prev", c.Prev(), c, "b5")
		stands(t, "Last", c.Last(), c, "f5")
		stands(t, "Next from the last one", c.Next(), c, "")
		stands(t, "First", c.First(), c, "b5")
		stands(t, "Prev from the first one", c.Prev(), c, "")
		stands(t, "Next from ahead", c.Next(), c, "b5")
		if k, value, ok := c.Here(); !ok || k != put("b", 5) || value != "of b" {
			t.Errorf("Here: %v, %q, %v", k, value, ok)
		}
	}
}

// P11.3, example 2: over nothing and over one entry.
func TestWalkOverFew(t *testing.T) {
	none := opened(t, nil, 1)
	stands(t, "new", false, none, "")
	for range 2 {
		stands(t, "First", none.First(), none, "")
		stands(t, "Next", none.Next(), none, "")
		stands(t, "Last", none.Last(), none, "")
		stands(t, "Prev", none.Prev(), none, "")
		stands(t, "Seek", none.Seek(put("a", 1)), none, "")
		stands(t, "Prev from behind", none.Prev(), none, "")
		stands(t, "Next from ahead", none.Next(), none, "")
	}
	one := opened(t, bdf()[:1], 1)
	stands(t, "First", one.First(), one, "b5")
	stands(t, "Last", one.Last(), one, "b5")
	stands(t, "Next", one.Next(), one, "")
	stands(t, "Prev", one.Prev(), one, "b5")
	stands(t, "Prev", one.Prev(), one, "")
	stands(t, "Next", one.Next(), one, "b5")
	stands(t, "Seek above", one.Seek(put("c", 5)), one, "")
	stands(t, "Next from behind", one.Next(), one, "")
	stands(t, "Prev from behind", one.Prev(), one, "b5")
}

// P11.3, example 3
func TestSeekOfTheExample(t *testing.T) {
	c := opened(t, first(), 2)
	stands(t, "Seek", c.Seek(ikey.At("abc", 5)), c, "abc2")
	stands(t, "Next", c.Next(), c, "")
	stands(t, "Prev", c.Prev(), c, "abc2")
	stands(t, "Seek", c.Seek(ikey.At("b", 1)), c, "")
	stands(t, "Prev from behind", c.Prev(), c, "abc2")
}

// P11.3: Seek of what is there, what lies between, below and above all, also of keys that are none.
func TestSeek(t *testing.T) {
	l := []entry{
		{put("b", 5), "of b"}, {put("d", 7), "newer"}, {put("d", 5), "of d"}, {at("d", 5, api.KindDelete), ""}, {put("d", 3), "older"}, {put("f", 5), "of f"},
	}
	for _, restart := range []int{1, 2, 3, 64} {
		c := opened(t, l, restart)
		for _, x := range []struct {
			key  api.IKey
			want string
			kind int
		}{
			{api.IKey{}, "b5", 1},
			{put("a", 9), "b5", 1},
			{put("b", 6), "b5", 1},
			{at("b", 5, 255), "b5", 1},
			{put("b", 5), "b5", 1},
			{at("b", 5, 0), "d7", 1},
			{at("b", 4, 255), "d7", 1},
			{put("c", 5), "d7", 1},
			{at("d", maxWord, math.MaxInt), "d7", 1},
			{put("d", 7), "d7", 1},
			{at("d", 7, 0), "d5", 1},
			{put("d", 6), "d5", 1},
			{put("d", 5), "d5", 1},
			{at("d", 5, 0), "d5", 0},
			{at("d", 5, -1), "d3", 1},
			{at("d", 4, 255), "d3", 1},
			{put("d", 3), "d3", 1},
			{put("d", 2), "f5", 1},
			{at("d", 0, math.MinInt), "f5", 1},
			{put("f", 5), "f5", 1},
			{at("f", 5, 0), "", 0},
			{put("f\x00", 5), "", 0},
			{put(of(2000), 1), "", 0},
			{put("e"+of(2000), 1), "f5", 1},
		} {
			stands(t, "Seek", c.Seek(x.key), c, x.want)
			if k, _, _ := c.Here(); k.Kind != x.kind {
				t.Errorf("Seek(%.40v): kind %d, want %d", x.key, k.Kind, x.kind)
			}
		}
	}
}

// P11.3: all calls, in each stretch between two restarts, held against a plain list.
func TestChanceWalks(t *testing.T) {
	chance := rand.New(rand.NewSource(3))
	for range 300 {
		l := chanceEntries(chance, 40)
		b := plainBytes(l, 1+chance.Intn(8))
		if chance.Intn(2) == 0 {
			b = freely(chance, l)
			if _, ok := plainOpen(b); !ok {
				continue
			}
		}
		c, e := Open(b)
		if e != api.OK {
			t.Fatal(int(e))
		}
		p := &plainCursor{l: l, at: -1}
		for range 120 {
			var ok bool
			switch call := chance.Intn(12); {
			case call == 0:
				ok = c.First()
				p.first()
			case call == 1:
				ok = c.Last()
				p.last()
			case call < 4:
				k := chanceKey(chance)
				ok = c.Seek(k)
				p.seek(k)
			case call < 8:
				ok = c.Next()
				p.next()
			default:
				ok = c.Prev()
				p.prev()
			}
			want, there := p.here()
			if k, value, here := c.Here(); ok != there || here != there || k != want.key || value != want.value {
				t.Fatalf("stands at %v %q (%v, %v), want %v (%v)", k, value, ok, here, want, there)
			}
		}
		for _, x := range l {
			if k, _, _ := c.Here(); !c.Seek(x.key) {
				t.Errorf("Seek of what is there, from %v", k)
			}
			if k, value, _ := c.Here(); k != x.key || value != x.value {
				t.Errorf("Seek(%v) stands at %v", x.key, k)
			}
		}
	}
}

// P11.3: two cursors over one block walk apart.
func TestCursorsApart(t *testing.T) {
	b := plainBytes(bdf(), 2)
	one, _ := Open(b)
	two, _ := Open(b)
	one.Last()
	stands(t, "the other one", false, two, "")
	stands(t, "Next", two.Next(), two, "b5")
	stands(t, "the first one", true, one, "f5")
}

// Rule 1
func TestNoCursor(t *testing.T) {
	var none *Cursor
	for _, c := range []*Cursor{none, {}} {
		for range 2 {
			stands(t, "new", false, c, "")
			stands(t, "First", c.First(), c, "")
			stands(t, "Next", c.Next(), c, "")
			stands(t, "Last", c.Last(), c, "")
			stands(t, "Prev", c.Prev(), c, "")
			stands(t, "Seek", c.Seek(api.IKey{}), c, "")
			stands(t, "Prev", c.Prev(), c, "")
			if c.Len() != 0 {
				t.Errorf("Len %d", c.Len())
			}
		}
	}
}
