package skip

import (
	"iter"
	"slices"
	"strconv"
	"testing"

	"moraine/api"
)

// gone is what a range goes through, in one text.
func gone(all iter.Seq2[int, api.IKey]) string {
	text := ""
	for n, k := range all {
		text += strconv.Itoa(n) + k.Key + " "
	}
	return text
}

// bdf has the nodes b (1), d (2) and f (3).
func bdf(t *testing.T) *List[string] {
	t.Helper()
	l := made(t, 100)
	for i, key := range []string{"b", "d", "f"} {
		expectInsert(t, l, put(key, 1), key, i+1, api.OK)
	}
	return l
}

// P8.4: as often as one likes, and left early.
func TestAllAgain(t *testing.T) {
	all := bdf(t).All()
	for range 3 {
		if text := gone(all); text != "1b 2d 3f " {
			t.Errorf("gone through: %q", text)
		}
		text := ""
		for n, k := range all {
			if n == 3 {
				break
			}
			text += k.Key
		}
		if text != "bd" {
			t.Errorf("left early: %q", text)
		}
	}
	asked := 0
	all(func(int, api.IKey) bool {
		asked++
		return false
	})
	if asked != 1 {
		t.Errorf("asked %d times though the first one was the last", asked)
	}
	for n := range all {
		if text := gone(all); text != "1b 2d 3f " {
			t.Errorf("within another, at %d: %q", n, text)
		}
	}
}

// P8.4: nodes that come between the call and the range.
func TestAllAheadOfTheRange(t *testing.T) {
	l := bdf(t)
	all := l.All()
	for i, key := range []string{"a", "c", "e", "g"} {
		expectInsert(t, l, put(key, 1), key, i+1, api.OK)
		if text := gone(all); text != "1b 2d 3f " {
			t.Errorf("behind %s: %q", key, text)
		}
	}
	if text := gone(l.All()); text != "4a 1b 5c 2d 6e 3f 7g " {
		t.Errorf("anew: %q", text)
	}
	empty := made(t, 1)
	none := empty.All()
	expectInsert(t, empty, put("a", 1), "", 1, api.OK)
	if text := gone(none); text != "" {
		t.Errorf("of no node: %q", text)
	}
}

// P8.4: nodes that come in the midst of the range, ahead of where it stands and behind, until the nodes' memory is another.
func TestAllInTheMidst(t *testing.T) {
	for stand := 1; stand <= 3; stand++ {
		l := bdf(t)
		text := ""
		for n, k := range l.All() {
			text += strconv.Itoa(n) + k.Key + " "
			if n != stand {
				continue
			}
			for i, key := range []string{"a", "b\x00", "c", "d\x00", "e", "f\x00", "g"} {
				for seq := range 8 {
					expectInsert(t, l, put(key, uint64(seq)), key, i+1, api.OK)
				}
			}
		}
		if text != "1b 2d 3f " {
			t.Errorf("inserted at %d: %q", stand, text)
		}
		if l.Len() != 3+7*8 || len(gone(l.All())) <= len(text) {
			t.Errorf("%d nodes", l.Len())
		}
	}
}

// P8.4: a range that puts a node right behind each one that it is told ends.
func TestAllEnds(t *testing.T) {
	l := bdf(t)
	count := 0
	for _, k := range l.All() {
		count++
		expectInsert(t, l, put(k.Key+"\x00", 1), "", 2, api.OK)
	}
	if count != 3 || l.Len() != 6 {
		t.Errorf("%d gone through, %d nodes", count, l.Len())
	}
}

// P8.5 and rule 1: a list that is nil, and one that no call made.
func TestNoList(t *testing.T) {
	for _, l := range []*List[string]{nil, {}, new(List[string])} {
		expectInsert(t, l, put("a", 1), "v", 1, api.ErrNil)
		expectInsert(t, l, put("", 1), "v", 0, api.ErrNil)
		expectSame(t, l, &plain{}, probes())
		for range l.All() {
			t.Error("a node of none")
		}
	}
}

// Rule 2: what belongs to no key is the zero value, whatever type it has.
func TestOtherTypes(t *testing.T) {
	type pair struct {
		a int
		b []byte
	}
	l, _ := New[pair](2)
	if e := l.Insert(put("a", 1), pair{7, []byte("x")}, 1); e != api.OK {
		t.Fatal(int(e))
	}
	if v, ok := l.Get(put("a", 1)); !ok || v.a != 7 || string(v.b) != "x" {
		t.Errorf("%v %v", v, ok)
	}
	if v, ok := l.Get(put("b", 1)); ok || v.a != 0 || v.b != nil {
		t.Errorf("%v %v", v, ok)
	}
	if k, v, ok := l.Node(2); ok || k != (api.IKey{}) || v.a != 0 || v.b != nil {
		t.Errorf("%v %v %v", k, v, ok)
	}
	words, _ := New[func() string](1)
	words.Insert(put("a", 1), func() string { return "told" }, 1)
	if f, ok := words.Get(put("a", 1)); !ok || f() != "told" {
		t.Error("a function")
	}
	if f, ok := words.Get(put("b", 1)); ok || f != nil {
		t.Error("a function of no key")
	}
}

// Rule 4: what is told is memory of its own, spare room too.
func TestToldIsNewMemory(t *testing.T) {
	l, p := example(t)
	spoil := func(told []int) {
		told = told[:cap(told)]
		for i := range told {
			told[i] = -9
		}
	}
	for level := range 3 {
		first, second := l.Links(level), l.Links(level)
		spoil(first)
		expectNumbers(t, "Links", second, p.links(level))
	}
	first, second := l.Trail(put("c", 1)), l.Trail(put("c", 1))
	spoil(first)
	expectNumbers(t, "Trail", second, []int{0, 1, 1})
	expectSame(t, l, p, probes())
}

// Rule 4: the bytes of which a key was made may change behind the call.
func TestKeysAreKept(t *testing.T) {
	l := made(t, 3)
	b := []byte("b")
	expectInsert(t, l, put(string(b), 1), string(b), 1, api.OK)
	b[0] = 'a'
	expectInsert(t, l, put(string(b), 1), string(b), 2, api.OK)
	if text := gone(l.All()); text != "2a 1b " {
		t.Errorf("%q", text)
	}
}

// Two lists have nothing in common.
func TestListsApart(t *testing.T) {
	one, other := bdf(t), bdf(t)
	expectInsert(t, one, put("a", 1), "", 4, api.OK)
	if gone(other.All()) != "1b 2d 3f " || other.Height() != 3 || !slices.Equal(other.Links(2), []int{3}) {
		t.Errorf("%q, Height %d", gone(other.All()), other.Height())
	}
}
