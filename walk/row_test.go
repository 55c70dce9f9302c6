package walk

import (
	"math/rand"
	"slices"
	"testing"

	"moraine/api"
	"moraine/ikey"
	"moraine/table"
)

// Example 3
func TestExampleThree(t *testing.T) {
	x, _ := example(t)
	y, _ := built(t, api.Shape{Page: 16, Restart: 1}, put("c", 1))
	r := NewRow([]*table.Table{x, y})
	tells(t, "new", false, r, "", api.OK)
	tells(t, "First", r.First(), r, "a2", api.OK)
	for _, want := range []string{"a1", "b3", "c1", "", ""} {
		tells(t, "Next", r.Next(), r, want, api.OK)
	}
	tells(t, "Last", r.Last(), r, "c1", api.OK)
	tells(t, "Seek b 2", r.Seek(ikey.At("b", 2)), r, "c1", api.OK)
	if e, _ := r.Here(); e != put("c", 1) {
		t.Errorf("at %s", brief(e))
	}
}

// rows are rows of tables that rise; nil stands for a nil table, an empty list for a table without blocks.
func rows() map[string][][]page {
	a, b, c, d := of(put("a", 9), del("a", 4)), of(put("c", 7), put("cc", 7)), of(put("d", 9)), of(put("d", 3), del("f", 5))
	empty := []page{}
	without := []page{none("b"), none("n")}
	return map[string][][]page{
		"no table":                {},
		"a nil one":               {nil},
		"nil ones":                {nil, nil, nil},
		"without entries":         {empty, without, nil, empty},
		"one":                     {{a, b, c, d}},
		"two":                     {{a, b}, {c, d}},
		"four":                    {{a}, {b}, {c}, {d}},
		"ahead":                   {nil, empty, without, {a, b}, {c, d}},
		"between":                 {{a}, nil, {b}, empty, nil, {c}, without, without, {d}},
		"behind":                  {{a, b}, {c, d}, without, nil, empty},
		"all about":               {empty, {none("0"), a, none("b")}, nil, {none("bb"), b, none("cz")}, without, {c, d, none("z")}, nil},
		"one key, two tables":     {{c}, {d}},
		"one entry":               {nil, {c}, nil},
		"a wide key in the index": {{page{key: at("m", 0), entries: a.entries}}, {b}, {c, d}},
	}
}

// row tells the row of tables.
func row(t *testing.T, tables [][]page) *Row {
	t.Helper()
	return NewRow(list(t, tables))
}

func list(t *testing.T, tables [][]page) []*table.Table {
	t.Helper()
	var l []*table.Table
	for _, pages := range tables {
		if pages == nil {
			l = append(l, nil)
			continue
		}
		l = append(l, opened(t, pages))
	}
	return l
}

// entriesOf tells the entries of all tables, one behind the other.
func entriesOf(tables [][]page) []api.Entry {
	var l []api.Entry
	for _, pages := range tables {
		for _, p := range pages {
			l = append(l, p.entries...)
		}
	}
	return l
}

// P14.4: each of the five calls from each place, along all ways of five calls.
func TestRowWays(t *testing.T) {
	for name, tables := range rows() {
		l := list(t, tables)
		fresh := func() (got, want walker) { return NewRow(l), newPlainRow(tables...) }
		walked(t, name, append(calls(), seek(at("b", 3)), seek(at("d", 8))), 5, fresh)
	}
}

// P14.4: Seek below, at, between and above all keys, and what the next calls tell.
func TestRowSeeks(t *testing.T) {
	for name, tables := range rows() {
		got, want := row(t, tables), newPlainRow(tables...)
		for _, k := range places() {
			for _, c := range calls() {
				moved(t, name+" "+c.name, c, got, want)
				moved(t, name+" "+seek(k).name, seek(k), got, want)
				moved(t, name+" "+c.name+" behind "+seek(k).name, c, got, want)
			}
		}
	}
}

// P14.5, P14.6: a row tells the entries of all, one table behind the other, both ways.
func TestRowEntries(t *testing.T) {
	for name, tables := range rows() {
		bothWays(t, name, row(t, tables), entriesOf(tables))
	}
}

// P14.4: the list is not kept, and not changed.
func TestRowList(t *testing.T) {
	tables := rows()["between"]
	l := append(list(t, tables), opened(t, []page{of(put("z", 1))}))
	given := slices.Clone(l)
	r := NewRow(l[:len(tables)])
	if !slices.Equal(l, given) {
		t.Error("the list was changed")
	}
	r.Seek(at("c", 9))
	clear(l)
	bothWays(t, "list cleared", r, entriesOf(tables))
	for i := range l {
		l[i] = given[len(tables)]
	}
	bothWays(t, "list changed", r, entriesOf(tables))
	if r := NewRow(l[:0]); r == nil || r.First() || r.Last() {
		t.Error("a row of no table has entries")
	}
}

// P14.4, rule 1: rows of nothing, and of tables that no call gave.
func TestRowOfNothing(t *testing.T) {
	x := opened(t, []page{of(put("a", 1))})
	for _, l := range [][]*table.Table{nil, {}, {nil}, {{}}, {nil, {}, nil}} {
		r := NewRow(l)
		if r == nil {
			t.Fatal("no row")
		}
		tells(t, "new", false, r, "", api.OK)
		for _, c := range append(calls(), seek(at("a", 1)), seek(api.IKey{})) {
			tells(t, c.name, c.of(r), r, "", api.OK)
		}
		bothWays(t, "and one", NewRow(slices.Concat(l, []*table.Table{x}, l)), []api.Entry{put("a", 1)})
	}
}

// Rows over one table, and cursors beside them, are apart.
func TestRowsApart(t *testing.T) {
	l := list(t, rows()["four"])
	one, two, c := NewRow(l), NewRow(l), New(l[0])
	tells(t, "First", one.First(), one, "a9", api.OK)
	tells(t, "Last", two.Last(), two, "f5", api.OK)
	tells(t, "the cursor", c.Last(), c, "a4", api.OK)
	tells(t, "Next", one.Next(), one, "a4", api.OK)
	tells(t, "Next", one.Next(), one, "c7", api.OK)
	tells(t, "Prev", two.Prev(), two, "d3", api.OK)
	tells(t, "the cursor", c.Prev(), c, "a9", api.OK)
}

// P14.4: of tables that do not rise, and with blocks that can't be read, each call ends.
func TestRowEnds(t *testing.T) {
	chance := rand.New(rand.NewSource(144))
	for range 400 {
		var tables [][]page
		for range chance.Intn(6) {
			tables = append(tables, chancePages(chance, chance.Intn(4)))
		}
		l := list(t, tables)
		if len(l) > 1 {
			l[0] = l[len(l)-1]
		}
		r := NewRow(l)
		for range 100 {
			c := seek(chanceKey(chance))
			if i := chance.Intn(6); i < 4 {
				c = calls()[i]
			}
			ok := c.of(r)
			if x, here := r.Here(); ok != here || !here && x != (api.Entry{}) {
				t.Fatalf("%s: %v, at %s (%v)", c.name, ok, brief(x), here)
			}
			if e := r.Err(); e != api.OK && (ok || e != api.ErrTable) {
				t.Fatalf("%s: %v, error %d", c.name, ok, int(e))
			}
		}
	}
}

// P14.4: the error of a row is that of the last call.
func TestRowErr(t *testing.T) {
	a, b, c := of(put("a", 1)), of(put("b", 1)), of(put("c", 1))
	for _, fault := range []int{turned, bent, short} {
		for name, tables := range map[string][][]page{"within": {{a, b.wrong(fault)}, {c}}, "alone": {{a}, {b.wrong(fault)}, {c}}, "first": {{a}, {b.wrong(fault), c}}} {
			r := row(t, tables)
			tells(t, name+": First", r.First(), r, "a1", api.OK)
			tells(t, name+": Next", r.Next(), r, "", api.ErrTable)
			tells(t, name+": Next again", r.Next(), r, "", api.OK)
			tells(t, name+": Prev", r.Prev(), r, "c1", api.OK)
			tells(t, name+": Prev", r.Prev(), r, "", api.ErrTable)
			tells(t, name+": Last", r.Last(), r, "c1", api.OK)
			tells(t, name+": Seek", r.Seek(at("b", 1)), r, "", api.ErrTable)
			tells(t, name+": First", r.First(), r, "a1", api.OK)
		}
	}
}

// P14.4, P14.5: entries by chance, parted by chance into tables and pages, walked at random.
func TestRowChance(t *testing.T) {
	chance := rand.New(rand.NewSource(1444))
	for range 500 {
		l := chanceEntries(chance, 25)
		var tables [][]page
		var pages []page
		for len(l) > 0 {
			n := 1 + chance.Intn(min(len(l), 4))
			pages = append(pages, of(l[:n]...))
			l = l[n:]
			if chance.Intn(2) == 0 {
				tables = append(tables, pages)
				pages = nil
			}
			if chance.Intn(4) == 0 {
				tables = append(tables, [][]page{nil, {}, {none("b"), none("z")}}[chance.Intn(3)])
			}
		}
		// What has not been closed comes last, and nil where there is none.
		tables = append(tables, pages)
		ordered(t, tables)
		got, want := row(t, tables), newPlainRow(tables...)
		for range 60 {
			c := seek(chanceKey(chance))
			if i := chance.Intn(8); i < 4 {
				c = calls()[i]
			} else if i < 6 {
				c = calls()[i-2]
			}
			moved(t, brief(tables)+" "+c.name, c, got, want)
		}
		bothWays(t, brief(tables), got, entriesOf(tables))
	}
}

// ordered makes sure that tables rise: else nothing would be held against anything.
func ordered(t *testing.T, tables [][]page) {
	t.Helper()
	l := entriesOf(tables)
	for i := 1; i < len(l); i++ {
		if !plainBelow(keyOf(l[i-1]), keyOf(l[i])) {
			t.Fatalf("they do not rise: %s", brief(tables))
		}
	}
}

// P14.4: very many tables without entries, and one table very many times.
func TestManyTables(t *testing.T) {
	one := opened(t, []page{of(put("a", 1))})
	without := opened(t, []page{none("b")})
	l := slices.Concat([]*table.Table{one}, make([]*table.Table, 50000), slices.Repeat([]*table.Table{without}, 50000))
	l = append(l, opened(t, []page{of(put("c", 1))}))
	r := NewRow(l)
	tells(t, "First", r.First(), r, "a1", api.OK)
	tells(t, "Next", r.Next(), r, "c1", api.OK)
	tells(t, "Prev", r.Prev(), r, "a1", api.OK)
	tells(t, "Seek", r.Seek(at("b", 1)), r, "c1", api.OK)
	again := NewRow(slices.Repeat([]*table.Table{one}, 50000))
	for _, c := range append(calls(), seek(at("a", 1)), seek(at("b", 1))) {
		c.of(again)
	}
}
