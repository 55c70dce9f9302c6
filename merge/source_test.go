package merge

import (
	"math/rand"
	"slices"
	"strconv"
	"testing"

	"moraine/api"
	"moraine/mem"
	"moraine/table"
	"moraine/walk"
)

// panics is a source of which each call panics that is not let go well.
type panics struct {
	*List
	well int
}

func (p *panics) count() {
	p.well--
	if p.well < 0 {
		panic("a source that panics")
	}
}

func (p *panics) First() bool { p.count(); return p.List.First() }

func (p *panics) Last() bool { p.count(); return p.List.Last() }

func (p *panics) Seek(k api.IKey) bool { p.count(); return p.List.Seek(k) }

func (p *panics) Next() bool { p.count(); return p.List.Next() }

func (p *panics) Prev() bool { p.count(); return p.List.Prev() }

func (p *panics) Here() (api.Entry, bool) { p.count(); return p.List.Here() }

// holder has a source in it: a nil pointer to one panics at each call.
type holder struct{ plain }

// nothings are sources that have nothing: nil ones, such as hold a nil pointer, such as no call gave, and empty ones.
func nothings() map[string]Source {
	return map[string]Source{
		"nil":                  nil,
		"a nil List":           (*List)(nil),
		"a nil Merged":         (*Merged)(nil),
		"a plain List":         &List{},
		"a plain Merged":       &Merged{},
		"a nil plain cursor":   (*plain)(nil),
		"a nil holder":         (*holder)(nil),
		"a nil in a holder":    struct{ Source }{},
		"a nil memtable's":     (*mem.Cursor)(nil),
		"a nil table's":        (*walk.Cursor)(nil),
		"a nil row":            (*walk.Row)(nil),
		"a plain row":          &walk.Row{},
		"one that panics":      &panics{List: NewList([]api.Entry{put("b", 2)})},
		"Here panics":          &herePanics{NewList([]api.Entry{put("b", 2)})},
		"Here tells of none":   &noHere{NewList([]api.Entry{put("b", 2)})},
		"an empty List":        NewList(nil),
		"a Merged of none":     New(),
		"a Merged of nil ones": New(nil, (*List)(nil), nil),
		"an empty memtable's":  mem.New(1).Cursor(),
		"a row of no table":    walk.NewRow(nil),
	}
}

type herePanics struct{ *List }

func (herePanics) Here() (api.Entry, bool) { panic("Here") }

// noHere stands at entries, and tells none of them.
type noHere struct{ *List }

func (n noHere) Here() (api.Entry, bool) {
	x, _ := n.List.Here()
	return x, false
}

// P19.2, rule 1: a source that has nothing, alone, and ahead, between and behind others.
func TestSourcesOfNothing(t *testing.T) {
	x := marked([]api.Entry{put("a", 3), put("b", 2), put("b", 2)}, []api.Entry{put("b", 2), put("c", 1)})
	for name := range nothings() {
		none := func() Source { return nothings()[name] }
		for where, fresh := range map[string]func() (Source, *plain){
			"alone":   func() (Source, *plain) { return New(none()), newPlain() },
			"twice":   func() (Source, *plain) { return New(none(), none()), newPlain() },
			"ahead":   func() (Source, *plain) { return New(none(), NewList(x[0])), newPlain(nil, x[0]) },
			"behind":  func() (Source, *plain) { return New(NewList(x[0]), none()), newPlain(x[0]) },
			"between": func() (Source, *plain) { return New(NewList(x[0]), none(), NewList(x[1])), newPlain(x[0], nil, x[1]) },
			"all about": func() (Source, *plain) {
				return New(none(), NewList(x[0]), none(), none(), NewList(x[1]), none()), newPlain(nil, x[0], nil, nil, x[1])
			},
		} {
			walked(t, name+" "+where, append(calls(), seek1(at("b", 2))), 4, fresh)
			got, want := fresh()
			places(t, name+" "+where, got, want)
			bothWays(t, name+" "+where, got, want.entries())
		}
	}
}

// P19.2: no sources.
func TestNoSources(t *testing.T) {
	for _, l := range [][]Source{nil, {}, make([]Source, 0, 3)} {
		walked(t, "no sources", append(calls(), seek1(at("b", 2)), seek1(api.IKey{})), 4, func() (Source, *plain) { return New(l...), newPlain() })
	}
	if New() == nil || New(nil) == nil || New() == New() {
		t.Error("no cursor, or the same one twice")
	}
}

// Rule 1: a source that panics at any of its calls.
func TestSourcesThatPanic(t *testing.T) {
	x := []api.Entry{put("a", 1), put("b", 1), put("c", 1), put("d", 1)}
	chance := rand.New(rand.NewSource(1921))
	for well := range 60 {
		m := New(NewList(x), &panics{NewList(x), well}, NewList(x), &panics{NewList(x), well / 2})
		for range 60 {
			c := anyCall(chance)
			ok := c.of(m)
			if x, here := m.Here(); ok != here || here != (m.From() >= 0) || !here && x != (api.Entry{}) {
				t.Fatalf("%s: %v, at %s from %d", c.name, ok, brief(x), m.From())
			}
		}
		bothWays(t, "what the others have", m, All(x, x))
	}
}

// liar answers anything to each call.
type liar struct{ chance *rand.Rand }

func (l liar) says() bool { return l.chance.Intn(8) > 0 }

func (l liar) First() bool { return l.says() }

func (l liar) Last() bool { return l.says() }

func (l liar) Seek(api.IKey) bool { return l.says() }

func (l liar) Next() bool { return l.says() }

func (l liar) Prev() bool { return l.says() }

func (l liar) Here() (api.Entry, bool) { return anyEntry(l.chance), l.says() }

// endless is always at one and the same entry.
type endless struct{}

func (endless) First() bool { return true }

func (endless) Last() bool { return true }

func (endless) Seek(api.IKey) bool { return true }

func (endless) Next() bool { return true }

func (endless) Prev() bool { return true }

func (endless) Here() (api.Entry, bool) { return put("b", 2), true }

// Rule 1: each call ends, whatever its sources answer, and tells but what they told.
func TestSourcesThatLie(t *testing.T) {
	chance := rand.New(rand.NewSource(1922))
	x := []api.Entry{put("a", 1), put("b", 2), put("c", 1)}
	twice := NewList(x)
	for _, m := range []*Merged{New(liar{chance}, NewList(x), liar{chance}), New(endless{}), New(NewList(x), endless{}, NewList(x), endless{}), New(twice, twice, New(twice))} {
		for range 3000 {
			c := anyCall(chance)
			ok := c.of(m)
			if x, here := m.Here(); ok != here || here != (m.From() >= 0) || !here && x != (api.Entry{}) {
				t.Fatalf("%s: %v, at %s from %d", c.name, ok, brief(x), m.From())
			}
		}
	}
}

// growing is a source that stands by its entry, whatever comes.
type growing struct {
	plain
}

func (g *growing) add(x api.Entry) {
	i := 0
	for i < len(g.items) && plainBelow(key(g.items[i].entry), key(x)) {
		i++
	}
	isBehind := g.at == len(g.items)
	g.items = slices.Insert(g.items, i, item{entry: x})
	if isBehind || g.at >= i {
		g.at++
	}
}

// P19.2: what a source comes to have is told by the next First, Last and Seek.
func TestGrowing(t *testing.T) {
	one, two := &growing{plain{at: -1}}, &growing{plain{at: -1}}
	m := New(one, nil, two)
	tells(t, "First of nothing", m.First(), m, "", -1)
	two.add(put("m", 5))
	tells(t, "Next from behind", m.Next(), m, "", -1)
	tells(t, "First", m.First(), m, "m 5", 2)
	one.add(put("a", 1))
	tells(t, "stays", true, m, "m 5", 2)
	tells(t, "First", m.First(), m, "a 1", 0)
	tells(t, "Next", m.Next(), m, "m 5", 2)
	one.add(put("z", 1))
	tells(t, "Last", m.Last(), m, "z 1", 0)
	two.add(put("zz", 1))
	tells(t, "Last", m.Last(), m, "zz 1", 2)
	one.add(put("n", 3))
	tells(t, "Seek between", m.Seek(at("mm", 1)), m, "n 3", 0)
	two.add(put("n", 4))
	tells(t, "Seek", m.Seek(at("n", 9)), m, "n 4", 2)
	tells(t, "Prev", m.Prev(), m, "m 5", 2)
	tells(t, "Prev", m.Prev(), m, "a 1", 0)
	tells(t, "Prev", m.Prev(), m, "", -1)
	two.add(put("A", 1))
	tells(t, "Prev from ahead", m.Prev(), m, "", -1)
	tells(t, "Next from ahead", m.Next(), m, "A 1", 2)
	var all []api.Entry
	for _, x := range append(slices.Clone(one.items), two.items...) {
		all = append(all, x.entry)
	}
	bothWays(t, "all that came", m, All(all))
}

// grown is a cursor over sources that come to have more, the entries that are there, and those that were at the last First, Last or Seek.
type grown struct {
	t       *testing.T
	m       *Merged
	add     []func(x api.Entry)
	now     [][]api.Entry
	sought  *plain
	isThere map[api.IKey]int
}

func newGrown(t *testing.T, sources []Source, add []func(x api.Entry)) *grown {
	return &grown{t: t, m: New(sources...), add: add, now: make([][]api.Entry, len(sources)), sought: newPlain(), isThere: map[api.IKey]int{}}
}

// grow has a source get an entry that none has.
func (g *grown) grow(chance *rand.Rand) {
	x := api.Entry{Key: string(rune('a' + chance.Intn(12))), Seq: uint64(1 + chance.Intn(8)), Kind: chance.Intn(2)}
	if _, there := g.isThere[key(x)]; there {
		return
	}
	i := chance.Intn(len(g.add))
	g.isThere[key(x)] = i
	g.add[i](x)
	g.now[i] = append(g.now[i], x)
}

// exact holds a call against all that is there now.
func (g *grown) exact(c call) {
	g.t.Helper()
	p := newPlain(g.now...)
	moved(g.t, c.name, c, g.m, p)
	g.sought = p
}

// on goes by one from an entry: no entry that was there at the last First, Last or Seek is passed over, and what is told is there and lies that way.
func (g *grown) on(c call, isAhead func(a, b api.IKey) bool) {
	g.t.Helper()
	from, _ := g.m.Here()
	ok := c.of(g.m)
	to, is := g.m.Here()
	if ok != is {
		g.t.Fatalf("%s: %v, at %s", c.name, ok, brief(to))
	}
	if i, there := g.isThere[key(to)]; is && (!there || g.m.From() != i || !isAhead(key(from), key(to))) || !is && g.m.From() != -1 {
		g.t.Fatalf("%s from %s: to %s, from %d", c.name, brief(from), brief(to), g.m.From())
	}
	for _, x := range g.sought.entries() {
		if isAhead(key(from), key(x)) && (!is || isAhead(key(x), key(to))) {
			g.t.Fatalf("%s from %s to %s: %s is passed over", c.name, brief(from), brief(to), brief(x))
		}
	}
}

// walks makes calls, with entries that come between them.
func (g *grown) walks(chance *rand.Rand, many int) {
	g.t.Helper()
	rare := 1 + chance.Intn(6)
	end := "ahead"
	for range many {
		if chance.Intn(rare) == 0 {
			g.grow(chance)
		}
		c := anyCall(chance)
		_, within := g.m.Here()
		isAhead := plainBelow
		if c.name == "Prev" {
			isAhead = func(a, b api.IKey) bool { return plainBelow(b, a) }
		}
		switch {
		case c.name != "Next" && c.name != "Prev":
			g.exact(c)
		case within:
			g.on(c, isAhead)
		case c.name == "Next" && end == "ahead":
			g.exact(call{"Next from ahead", func(s Source) bool { return startOr(s, Source.Next, Source.First) }})
		case c.name == "Prev" && end == "behind":
			g.exact(call{"Prev from behind", func(s Source) bool { return startOr(s, Source.Prev, Source.Last) }})
		default:
			tells(g.t, c.name+" from "+end, c.of(g.m), g.m, "", -1)
		}
		end = "behind"
		if c.name == "Last" || c.name == "Prev" {
			end = "ahead"
		}
	}
	g.exact(call{"Seek", func(s Source) bool { return s.Seek(api.IKey{}) }})
	bothWays(g.t, "grown", g.m, newPlain(g.now...).entries())
}

// startOr has the plain cursor go to an end, where the other one goes by one.
func startOr(s Source, one, start func(Source) bool) bool {
	if _, is := s.(*plain); is {
		return start(s)
	}
	return one(s)
}

// P19.2: any calls, with entries that come between them, behind and ahead of others.
func TestAnyGrowing(t *testing.T) {
	chance := rand.New(rand.NewSource(1923))
	for range 600 {
		var sources []Source
		var add []func(x api.Entry)
		for range 1 + chance.Intn(4) {
			s := &growing{plain{at: -1}}
			sources, add = append(sources, s), append(add, s.add)
		}
		newGrown(t, sources, add).walks(chance, 60)
	}
}

// P19.2: the same over memtables.
func TestAnyMemtables(t *testing.T) {
	chance := rand.New(rand.NewSource(1924))
	for range 300 {
		var sources []Source
		var add []func(x api.Entry)
		for i := range 1 + chance.Intn(4) {
			m := mem.New(i)
			sources = append(sources, m.Cursor())
			add = append(add, func(x api.Entry) {
				op := api.Op{Kind: x.Kind, Key: x.Key, Value: x.Value}
				if e := m.Add(x.Seq, op, 1+chance.Intn(4)); e != api.OK {
					t.Fatal(int(e))
				}
			})
		}
		newGrown(t, sources, add).walks(chance, 60)
	}
}

// tableOf tells a table of entries in their order, with small blocks.
func tableOf(t *testing.T, l []api.Entry) *table.Table {
	t.Helper()
	b, _ := table.NewBuilder(api.Shape{Page: 24, Restart: 2})
	for _, x := range l {
		if e := b.Add(x); e != api.OK {
			t.Fatal(int(e))
		}
	}
	file, _, e := b.Finish()
	if e != api.OK {
		t.Fatal(int(e))
	}
	x, e := table.Open(file)
	if e != api.OK {
		t.Fatal(int(e))
	}
	return x
}

// P19.2: over cursors of all the layers below: a memtable's, a table's, a row's, a list's, a merged one's.
func TestOverLayers(t *testing.T) {
	chance := rand.New(rand.NewSource(1925))
	for range 60 {
		parts := make([][]api.Entry, 5)
		for n := range 40 {
			i := chance.Intn(5)
			x := put(string(rune('a'+chance.Intn(6))), uint64(1+n/4))
			if !slices.ContainsFunc(parts[i], func(y api.Entry) bool { return key(x) == key(y) }) {
				parts[i] = append(parts[i], x)
			}
		}
		for i := range parts {
			parts[i] = newPlain(parts[i]).entries()
			for n := range parts[i] {
				parts[i][n].Value = strconv.Itoa(i)
			}
		}
		memtable := mem.New(1)
		for _, x := range parts[0] {
			memtable.Add(x.Seq, api.Op{Kind: x.Kind, Key: x.Key, Value: x.Value}, 1+chance.Intn(3))
		}
		half := len(parts[2]) / 2
		row := walk.NewRow([]*table.Table{tableOf(t, parts[2][:half]), tableOf(t, parts[2][half:])})
		m := New(memtable.Cursor(), walk.New(tableOf(t, parts[1])), row, NewList(parts[3]), New(nil, NewList(parts[4])))
		p := newPlain(parts...)
		for range 60 {
			c := anyCall(chance)
			moved(t, c.name, c, m, p)
		}
		sought(t, "layers", someKeys()[:20], m, p)
		bothWays(t, "layers", m, p.entries())
	}
}
