package view

import (
	"fmt"
	"math/rand"
	"testing"

	"moraine/api"
	"moraine/mem"
	"moraine/merge"
	"moraine/table"
	"moraine/walk"
)

// nothings are sources that have nothing: nil ones, such as hold a nil pointer, such as no call gave, and empty ones.
func nothings() map[string]merge.Source {
	return map[string]merge.Source{
		"nil":                  nil,
		"a nil List":           (*merge.List)(nil),
		"a plain List":         &merge.List{},
		"an empty List":        merge.NewList(nil),
		"a nil Merged":         (*merge.Merged)(nil),
		"a plain Merged":       &merge.Merged{},
		"a Merged of none":     merge.New(),
		"a Merged of nil ones": merge.New(nil, (*merge.List)(nil), nil),
		"a nil memtable's":     (*mem.Cursor)(nil),
		"an empty memtable's":  mem.New(1).Cursor(),
		"a nil table's":        (*walk.Cursor)(nil),
		"a row of no table":    walk.NewRow(nil),
		"a nil in a source":    struct{ merge.Source }{},
	}
}

// P20.2: sources that have nothing, alone, and ahead, between and behind others.
func TestSourcesOfNothing(t *testing.T) {
	one, two := []api.Entry{put("a", 3), put("b", 2)}, []api.Entry{del("a", 1), put("c", 1)}
	s := scene{dealt: [][]api.Entry{one, two}, tombs: []api.Tomb{ranged("b", "c", 4)}, seq: 3}
	for name := range nothings() {
		none := func() merge.Source { return nothings()[name] }
		for where, m := range map[string]func() *merge.Merged{
			"alone": func() *merge.Merged { return merge.New(none()) },
			"twice": func() *merge.Merged { return merge.New(none(), none()) },
		} {
			fresh := func() (cursor, *plain) { return New(m(), s.tombs, 3, "", ""), &plain{at: -1} }
			walked(t, name+" "+where, append(calls(), seek("b")), 4, fresh)
		}
		fresh := func() (cursor, *plain) {
			m := merge.New(none(), merge.NewList(one), none(), none(), merge.NewList(two), none())
			return New(m, s.tombs, s.seq, "", ""), s.plain()
		}
		walked(t, name+" all about", append(calls(), seek("b")), 4, fresh)
		got, want := fresh()
		places(t, name+" all about", got, want)
	}
}

// P20.2: no sources: a view all the same, at which nothing is seen.
func TestNoSources(t *testing.T) {
	for _, b := range bounds() {
		v := New(merge.New(), []api.Tomb{ranged("a", "z", 3)}, 5, b[0], b[1])
		if v == nil {
			t.Fatal("no view")
		}
		places(t, "no sources", v, &plain{at: -1})
		sought(t, "no sources", []string{"", "a", "b"}, v, &plain{at: -1})
	}
}

// deal gives each entry to one of so many sources.
func deal(chance *rand.Rand, l []api.Entry, many int) [][]api.Entry {
	out := make([][]api.Entry, many)
	for _, x := range l {
		i := chance.Intn(many)
		out[i] = append(out[i], x)
	}
	return out
}

// P20.4: how entries are dealt out over sources changes nothing.
func TestDealt(t *testing.T) {
	chance := rand.New(rand.NewSource(204))
	for range 600 {
		s := chanceScene(chance)
		l := unlike(s.entries())
		want := cut(Seen(l, s.tombs, s.seq), s.least, s.limit)
		for many := 1; many < 6; many++ {
			s.dealt = deal(chance, l, many)
			what := brief(s)
			bothWays(t, what, s.view(), want)
			v, p := s.view(), &plain{items: want, at: -1}
			for range 20 {
				c := chanceCall(chance)
				moved(t, what+" "+c.name, c, v, p)
			}
		}
	}
}

// P20.2: of those that are alike in several sources that of the first source counts, whichever way the view came there.
func TestAlikeInSeveral(t *testing.T) {
	b := put("b", 2)
	l := marked([]api.Entry{put("c", 2), put("a", 2)}, []api.Entry{b, put("c", 2), b}, []api.Entry{put("a", 2), b, put("b", 7)})
	m := func() *merge.Merged {
		return merge.New(nil, merge.NewList(l[0]), merge.New(merge.NewList(l[1]), merge.NewList(l[2])))
	}
	want := []api.Op{{Kind: 1, Key: "a", Value: "0 1"}, {Kind: 1, Key: "b", Value: "1 0"}, {Kind: 1, Key: "c", Value: "0 0"}}
	bothWays(t, "alike", New(m(), nil, 5, "", ""), want)
	places(t, "alike", New(m(), nil, 5, "", ""), &plain{items: want, at: -1})
	bothWays(t, "alike, between", New(m(), nil, 5, "b", "c"), want[1:2])
}

// growing is a view over memtables that come to have more.
type growing struct {
	t      *testing.T
	tables []*mem.Table
	view   *View
	plain  *plain
	next   uint64 // the number of what comes next
}

// newGrowing begins with all operations of a history, some of them above the view's number.
func newGrowing(t *testing.T, chance *rand.Rand, s scene, ops []api.Op) *growing {
	g := &growing{t: t, next: 1}
	var sources []merge.Source
	for i := range 1 + chance.Intn(4) {
		x := mem.New(i)
		g.tables = append(g.tables, x)
		sources = append(sources, x.Cursor())
	}
	for _, x := range ops {
		g.add(chance, x)
	}
	l, tombs := laid(ops)
	g.plain = &plain{items: cut(plainSeen(l, tombs, s.seq), s.least, s.limit), at: -1}
	g.view = New(merge.New(sources...), tombs, s.seq, s.least, s.limit)
	return g
}

func (g *growing) add(chance *rand.Rand, x api.Op) {
	g.t.Helper()
	i := chance.Intn(len(g.tables))
	// Tombs do not come by the sources.
	if x.Kind != api.KindRange {
		if e := g.tables[i].Add(g.next, x, 1+chance.Intn(4)); e != api.OK {
			g.t.Fatalf("%+v: %d", x, int(e))
		}
	}
	g.next++
}

// P20.2: entries with numbers above seq that come to the sources meanwhile, also between two calls at each place, are never seen, and change nothing that is.
func TestGrowing(t *testing.T) {
	chance := rand.New(rand.NewSource(2021))
	for range 400 {
		seq := chance.Intn(30)
		s := scene{seq: uint64(seq)}
		if chance.Intn(2) == 0 {
			s.least, s.limit = "b", "e"
		}
		g := newGrowing(t, chance, s, history(chance, seq+chance.Intn(4)))
		rare := 1 + chance.Intn(4)
		for range 60 {
			if chance.Intn(rare) == 0 {
				for _, x := range history(chance, 1+chance.Intn(3)) {
					x.Key = []string{"", "0", "z"}[chance.Intn(3)] + x.Key + []string{"", "\x00", "x"}[chance.Intn(3)]
					if x.Kind == api.KindRange {
						x.Kind, x.Value = api.KindPut, "later"
					}
					g.add(chance, x)
				}
				same(t, "what came", g.view, g.plain)
			}
			c := chanceCall(chance)
			moved(t, fmt.Sprint(c.name, " at ", seq), c, g.view, g.plain)
		}
		bothWays(t, "grown", g.view, g.plain.items)
	}
}

// P20.2: the same, told one by one: what comes right beside where the view stands.
func TestGrowingOneByOne(t *testing.T) {
	m := mem.New(1)
	add := func(key string, seq uint64, kind int) {
		t.Helper()
		x := api.Op{Kind: kind, Key: key}
		if kind == api.KindPut {
			x.Value = fmt.Sprint("of ", seq)
		}
		if e := m.Add(seq, x, 1); e != api.OK {
			t.Fatal(int(e))
		}
	}
	add("b", 1, api.KindPut)
	add("d", 2, api.KindPut)
	v := New(merge.New(m.Cursor()), nil, 2, "", "")
	tells(t, "First", v.First(), v, "b of 1")
	add("b", 3, api.KindPut)
	add("c", 4, api.KindPut)
	add("d", 5, api.KindDelete)
	tells(t, "Next", v.Next(), v, "d of 2")
	add("d", 6, api.KindPut)
	add("e", 7, api.KindPut)
	tells(t, "Next", v.Next(), v, "")
	add("f", 8, api.KindPut)
	tells(t, "Next from behind", v.Next(), v, "")
	tells(t, "Prev", v.Prev(), v, "d of 2")
	add("c", 9, api.KindDelete)
	add("b", 10, api.KindDelete)
	tells(t, "Prev", v.Prev(), v, "b of 1")
	add("a", 11, api.KindPut)
	add("b", 12, api.KindPut)
	tells(t, "Prev", v.Prev(), v, "")
	add("0", 13, api.KindPut)
	tells(t, "Prev from ahead", v.Prev(), v, "")
	tells(t, "Next", v.Next(), v, "b of 1")
	tells(t, "Seek a", v.Seek("a"), v, "b of 1")
	tells(t, "Seek c", v.Seek("c"), v, "d of 2")
	add("g", 14, api.KindPut)
	tells(t, "Last", v.Last(), v, "d of 2")
	tells(t, "First", v.First(), v, "b of 1")
}

// tableOf tells a table of entries in any order, none alike, with small blocks.
func tableOf(t *testing.T, l []api.Entry) *table.Table {
	t.Helper()
	b, _ := table.NewBuilder(api.Shape{Page: 24, Restart: 2})
	for _, x := range merge.All(l) {
		if e := b.Add(x); e != api.OK {
			t.Fatal(int(e))
		}
	}
	file, _, e := b.Finish()
	if e != api.OK {
		t.Fatal(int(e))
	}
	x, e := table.Open(file)
	if e != api.OK {
		t.Fatal(int(e))
	}
	return x
}

// P20.2, P20.4: over cursors of all the layers below: a memtable's, a table's, a row's, a list's, a merged one's.
func TestOverLayers(t *testing.T) {
	chance := rand.New(rand.NewSource(2022))
	for range 150 {
		ops := history(chance, 60)
		l, tombs := laid(ops)
		s := scene{dealt: deal(chance, l, 5), tombs: tombs, seq: uint64(chance.Intn(70))}
		if chance.Intn(2) == 0 {
			s.least, s.limit = "b", "e"
		}
		memtable := mem.New(1)
		for _, x := range s.dealt[0] {
			memtable.Add(x.Seq, api.Op{Kind: x.Kind, Key: x.Key, Value: x.Value}, 1+chance.Intn(3))
		}
		rising := merge.All(s.dealt[2])
		half := len(rising) / 2
		row := walk.NewRow([]*table.Table{tableOf(t, rising[:half]), tableOf(t, rising[half:])})
		m := merge.New(memtable.Cursor(), walk.New(tableOf(t, s.dealt[1])), row, merge.NewList(s.dealt[3]), merge.New(nil, merge.NewList(s.dealt[4])))
		v, p := New(m, tombs, s.seq, s.least, s.limit), s.plain()
		for range 60 {
			c := chanceCall(chance)
			moved(t, c.name, c, v, p)
		}
		sought(t, "layers", []string{"", "a", "b", "bb", "c", "e", "z"}, v, p)
		places(t, "layers", v, p)
		bothWays(t, "layers", v, p.items)
	}
}

// fails is a source of which each call panics that is not let go well.
type fails struct {
	*merge.List
	well int
}

func (f *fails) count() {
	f.well--
	if f.well < 0 {
		panic("a source that panics")
	}
}

func (f *fails) First() bool { f.count(); return f.List.First() }

func (f *fails) Last() bool { f.count(); return f.List.Last() }

func (f *fails) Seek(k api.IKey) bool { f.count(); return f.List.Seek(k) }

func (f *fails) Next() bool { f.count(); return f.List.Next() }

func (f *fails) Prev() bool { f.count(); return f.List.Prev() }

// lies answers anything, but comes to an end now and then.
type lies struct{ chance *rand.Rand }

func (l lies) says() bool { return l.chance.Intn(6) > 0 }

func (l lies) First() bool { return l.says() }

func (l lies) Last() bool { return l.says() }

func (l lies) Seek(api.IKey) bool { return l.says() }

func (l lies) Next() bool { return l.says() }

func (l lies) Prev() bool { return l.says() }

func (l lies) Here() (api.Entry, bool) { return chanceEntry(l.chance), l.says() }

// Rule 1: sources that panic, and such as do not keep to their order: each call ends, and its answer is what Here tells.
func TestSourcesThatFail(t *testing.T) {
	chance := rand.New(rand.NewSource(2023))
	x := []api.Entry{put("a", 1), put("b", 1), del("c", 1), put("d", 1)}
	twice := merge.NewList(x)
	for well := range 60 {
		for _, m := range []*merge.Merged{
			merge.New(merge.NewList(x), &fails{merge.NewList(x), well}, &fails{merge.NewList(x), well / 2}),
			merge.New(lies{chance}, merge.NewList(x), lies{chance}),
			merge.New(twice, twice),
		} {
			v := New(m, []api.Tomb{ranged("b", "c", 2)}, 3, "", "d")
			for range 200 {
				c := chanceCall(chance)
				ok := c.of(v)
				if key, value, here := v.Here(); ok != here || key >= "d" || !here && key+value != "" {
					t.Fatalf("%s: %v, at %q %q (%v)", c.name, ok, key, value, here)
				}
			}
		}
	}
}
