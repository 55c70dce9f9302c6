package view

import (
	"cmp"
	"fmt"
	"math"
	"math/rand"
	"slices"
	"strconv"
	"testing"

	"moraine/api"
	"moraine/merge"
)

// What the chapter says, word by word and without the package's own functions: the tests hold the package against it.

// brief tells the beginning of anything.
func brief(x any) string {
	s := fmt.Sprintf("%+v", x)
	return s[:min(len(s), 400)]
}

func put(key string, seq uint64) api.Entry {
	return api.Entry{Key: key, Seq: seq, Kind: api.KindPut, Value: key + " of " + strconv.FormatUint(seq, 10)}
}

func del(key string, seq uint64) api.Entry { return api.Entry{Key: key, Seq: seq} }

func kind(key string, seq uint64, kind int) api.Entry {
	return api.Entry{Key: key, Seq: seq, Kind: kind, Value: "kind " + strconv.Itoa(kind)}
}

func ranged(begin, end string, seq uint64) api.Tomb {
	return api.Tomb{Begin: begin, End: end, Seq: seq}
}

// isAhead tells whether one entry is ahead of another in the order of entries.
func isAhead(a, b api.Entry) bool {
	switch {
	case a.Key != b.Key:
		return a.Key < b.Key
	case a.Seq != b.Seq:
		return a.Seq > b.Seq
	}
	return a.Kind > b.Kind
}

// hides tells whether a tomb hides an entry at a number.
func hides(t api.Tomb, x api.Entry, seq uint64) bool {
	isValid := t.Begin != "" && len(t.Begin) <= api.MaxKey && len(t.End) <= api.MaxKey+1 && t.Begin < t.End && t.Seq <= api.MaxSeq
	return isValid && t.Seq <= seq && t.Seq > x.Seq && x.Key >= t.Begin && x.Key < t.End
}

// plainSeen tells what is seen: of each key the first entry among those that count.
func plainSeen(l []api.Entry, t []api.Tomb, seq uint64) []api.Op {
	first := map[string]api.Entry{}
	for _, x := range l {
		if was, there := first[x.Key]; x.Seq <= seq && (!there || isAhead(x, was)) {
			first[x.Key] = x
		}
	}
	var out []api.Op
	for _, x := range first {
		if x.Kind == api.KindPut && !slices.ContainsFunc(t, func(t api.Tomb) bool { return hides(t, x, seq) }) {
			out = append(out, api.Op{Kind: api.KindPut, Key: x.Key, Value: x.Value})
		}
	}
	slices.SortFunc(out, func(a, b api.Op) int { return cmp.Compare(a.Key, b.Key) })
	return out
}

// cut tells what lies between bounds.
func cut(l []api.Op, least, limit string) []api.Op {
	return slices.DeleteFunc(slices.Clone(l), func(x api.Op) bool { return x.Key < least || limit != "" && x.Key >= limit })
}

// cursor is what a view is held against.
type cursor interface {
	First() bool
	Last() bool
	Seek(key string) bool
	Next() bool
	Prev() bool
	Here() (key, value string, ok bool)
}

// plain goes through what is seen; it stands ahead at -1, behind behind the last one.
type plain struct {
	items []api.Op
	at    int
}

func (p *plain) isAtOne() bool { return p.at >= 0 && p.at < len(p.items) }

func (p *plain) stand(at int) bool {
	p.at = at
	return p.isAtOne()
}

func (p *plain) First() bool { return p.stand(0) }

func (p *plain) Last() bool { return p.stand(len(p.items) - 1) }

func (p *plain) Seek(key string) bool {
	for i, x := range p.items {
		if x.Key >= key {
			return p.stand(i)
		}
	}
	return p.stand(len(p.items))
}

func (p *plain) Next() bool { return p.stand(min(p.at+1, len(p.items))) }

func (p *plain) Prev() bool { return p.stand(max(p.at-1, -1)) }

func (p *plain) Here() (key, value string, ok bool) {
	if !p.isAtOne() {
		return "", "", false
	}
	return p.items[p.at].Key, p.items[p.at].Value, true
}

// scene is all that a view is made of.
type scene struct {
	dealt        [][]api.Entry // a list for each source
	tombs        []api.Tomb
	seq          uint64
	least, limit string
}

func (s scene) entries() []api.Entry { return slices.Concat(s.dealt...) }

// seen tells what its view has to tell.
func (s scene) seen() []api.Op {
	return cut(plainSeen(s.entries(), s.tombs, s.seq), s.least, s.limit)
}

func (s scene) plain() *plain { return &plain{items: s.seen(), at: -1} }

func (s scene) merged() *merge.Merged {
	var sources []merge.Source
	for _, l := range s.dealt {
		sources = append(sources, merge.NewList(l))
	}
	return merge.New(sources...)
}

func (s scene) view() *View { return New(s.merged(), s.tombs, s.seq, s.least, s.limit) }

// keys are all keys and bounds that a scene has, such as lie right ahead of and behind each, and such as lie about all.
func (s scene) keys() []string {
	l := []string{"", "\x00", "0", "bb", "\xff\xff\xff", s.least, s.limit}
	for _, x := range s.entries() {
		l = append(l, x.Key, x.Key+"\x00", x.Key[:max(0, len(x.Key)-1)])
	}
	for _, t := range s.tombs {
		l = append(l, t.Begin, t.End)
	}
	slices.Sort(l)
	return slices.Compact(l)
}

// call is one of the five that move a cursor.
type call struct {
	name string
	of   func(c cursor) bool
}

func seek(key string) call {
	return call{fmt.Sprintf("Seek(%.20q)", key), func(c cursor) bool { return c.Seek(key) }}
}

// calls are the four others.
func calls() []call {
	return []call{{"First", cursor.First}, {"Last", cursor.Last}, {"Next", cursor.Next}, {"Prev", cursor.Prev}}
}

// same holds where two cursors stand against each other; Here, asked twice, tells the same.
func same(t *testing.T, what string, got, want cursor) {
	t.Helper()
	key, value, is := want.Here()
	for range 2 {
		if k, v, ok := got.Here(); k != key || v != value || ok != is {
			t.Fatalf("%s: at %s %s (%v), want %s %s (%v)", what, brief(k), brief(v), ok, brief(key), brief(value), is)
		}
	}
}

// moved holds a call's answer, and what comes of it.
func moved(t *testing.T, what string, c call, got, want cursor) {
	t.Helper()
	a, b := c.of(got), c.of(want)
	if a != b {
		t.Fatalf("%s: %v, want %v", what, a, b)
	}
	same(t, what, got, want)
}

// walked holds new cursors against plain ones along every way of so many calls.
func walked(t *testing.T, what string, l []call, deep int, fresh func() (cursor, *plain)) {
	t.Helper()
	var way []call
	var on func()
	on = func() {
		if len(way) == deep {
			got, want := fresh()
			same(t, what+" new", got, want)
			path := what
			for _, c := range way {
				path += " " + c.name
				moved(t, path, c, got, want)
			}
			return
		}
		for _, c := range l {
			way = append(way, c)
			on()
			way = way[:len(way)-1]
		}
	}
	on()
}

// places holds every call from every place, whichever way it came there, and every second and third call behind it.
func places(t *testing.T, what string, got cursor, want *plain) {
	t.Helper()
	for i := -1; i <= len(want.items); i++ {
		for _, way := range [][]call{up(i), down(i, len(want.items))} {
			for n := range 4 * 4 * 4 {
				for _, c := range way {
					c.of(got)
					c.of(want)
				}
				path := what + " from " + strconv.Itoa(i) + " behind " + way[0].name
				same(t, path, got, want)
				for _, c := range []call{calls()[n/16], calls()[n/4%4], calls()[n%4]} {
					path += " " + c.name
					moved(t, path, c, got, want)
				}
			}
		}
	}
}

// up are the calls by which a cursor comes to a place from the first one.
func up(i int) []call {
	if i < 0 {
		return []call{calls()[0], calls()[3]}
	}
	return append(calls()[:1:1], slices.Repeat(calls()[2:3], i)...)
}

// down are those by which it comes there from the last one.
func down(i, size int) []call {
	if i >= size {
		return []call{calls()[1], calls()[2]}
	}
	return append(calls()[1:2:2], slices.Repeat(calls()[3:4], size-1-i)...)
}

// sought holds Seek of each key, from wherever a cursor stands, and what each call behind it tells.
func sought(t *testing.T, what string, keys []string, got cursor, want *plain) {
	t.Helper()
	for _, k := range keys {
		for _, c := range calls() {
			moved(t, what+" "+c.name, c, got, want)
			moved(t, what+" "+seek(k).name+" behind "+c.name, seek(k), got, want)
			moved(t, what+" "+c.name+" behind "+seek(k).name, c, got, want)
			moved(t, what+" "+seek(k).name+" again", seek(k), got, want)
			for range len(want.items) + 2 {
				moved(t, what+" "+seek(k).name+" and "+c.name+" on", c, got, want)
			}
		}
	}
}

// told goes through what a cursor tells from one end; of one that does not come to an end only so many.
func told(c cursor, start, step func(cursor) bool, most int) []api.Op {
	var out []api.Op
	for ok := start(c); ok && len(out) <= most; ok = step(c) {
		key, value, _ := c.Here()
		out = append(out, api.Op{Kind: api.KindPut, Key: key, Value: value})
	}
	return out
}

// bothWays holds what a cursor tells from either end.
func bothWays(t *testing.T, what string, c cursor, want []api.Op) {
	t.Helper()
	up := told(c, cursor.First, cursor.Next, len(want))
	down := told(c, cursor.Last, cursor.Prev, len(want))
	slices.Reverse(down)
	if !slices.Equal(up, want) || !slices.Equal(down, want) {
		t.Fatalf("%s: %s and %s, want %s", what, brief(up), brief(down), brief(want))
	}
}

// marked tells the same lists, each entry with a value that no other one has: its list's number, its place there.
func marked(lists ...[]api.Entry) [][]api.Entry {
	var out [][]api.Entry
	for i, l := range lists {
		l = slices.Clone(l)
		for n := range l {
			l[n].Value = fmt.Sprint(i, " ", n)
		}
		out = append(out, l)
	}
	return out
}

// example is what the chapter's examples begin with.
func example() ([]api.Entry, []api.Tomb) {
	given := func(key string, seq uint64, value string) api.Entry {
		return api.Entry{Key: key, Seq: seq, Kind: api.KindPut, Value: value}
	}
	return []api.Entry{given("a", 1, "x"), del("a", 4), given("b", 2, "y"), given("c", 3, "z")}, []api.Tomb{ranged("b", "c", 5)}
}

// scenes have few entries and tombs of each sort that the chapter's words name; without bounds.
func scenes() map[string]scene {
	l, tombs := example()
	long := string(make([]byte, 3*api.MaxKey))
	return map[string]scene{
		"nothing":                 {seq: 5},
		"no entries":              {dealt: [][]api.Entry{nil, {}}, tombs: tombs, seq: 5},
		"example at 0":            {dealt: [][]api.Entry{l}, tombs: tombs},
		"example at 2":            {dealt: [][]api.Entry{l}, tombs: tombs, seq: 2},
		"example at 4":            {dealt: [][]api.Entry{l[:2], l[2:]}, tombs: tombs, seq: 4},
		"example at 5":            {dealt: [][]api.Entry{l[2:], l[:2]}, tombs: tombs, seq: 5},
		"one":                     {dealt: [][]api.Entry{{put("b", 2)}}, seq: 2},
		"one above":               {dealt: [][]api.Entry{{put("b", 3)}}, seq: 2},
		"a deletion alone":        {dealt: [][]api.Entry{{del("b", 2)}}, seq: 2},
		"many of each key":        {dealt: [][]api.Entry{{put("a", 1), put("a", 2), put("a", 3), put("a", 9)}, {put("b", 8), put("b", 7), put("b", 6)}, {put("c", 2), put("c", 1), put("c", 4)}}, seq: 5},
		"the first above, all":    {dealt: [][]api.Entry{{put("a", 6), put("b", 7), put("b", 5), put("c", 6)}}, seq: 5},
		"deletions between":       {dealt: [][]api.Entry{{put("a", 1), put("c", 1), put("e", 1)}, {del("a", 2), del("b", 2), del("c", 1), del("d", 2), del("e", 2), put("f", 1)}}, seq: 5},
		"deletions at the ends":   {dealt: [][]api.Entry{{del("a", 1), del("b", 4), put("b", 3), put("c", 1), del("d", 3), put("d", 2)}}, seq: 5},
		"kinds of one number":     {dealt: [][]api.Entry{{kind("a", 2, 0), kind("a", 2, 1), kind("b", 2, 2), kind("b", 2, 1), kind("c", 2, 255), kind("c", 2, 1), kind("d", 2, -1), kind("d", 2, 1), kind("e", 2, 7)}}, seq: 2},
		"other kinds, then puts":  {dealt: [][]api.Entry{{kind("a", 3, 2), kind("a", 2, 1), kind("b", 3, 255), kind("b", 2, 1), kind("c", 3, math.MaxInt), kind("c", 2, 1), kind("d", 3, math.MinInt), kind("d", 2, 1), put("e", 1)}}, seq: 3},
		"alike in one":            {dealt: marked([]api.Entry{put("b", 2), put("a", 2), put("b", 2), put("a", 2), put("b", 2)}), seq: 2},
		"alike in several":        {dealt: marked([]api.Entry{put("b", 2), put("c", 2)}, []api.Entry{put("a", 2), put("b", 2), put("b", 2)}, nil, []api.Entry{put("c", 2), put("a", 2), put("b", 2), put("a", 3)}), seq: 2},
		"alike, the first ones":   {dealt: marked([]api.Entry{put("b", 1), put("b", 5), put("b", 2), put("b", 2)}, []api.Entry{put("b", 2), put("b", 5)}), seq: 4},
		"an empty key":            {dealt: [][]api.Entry{{put("", 1), put("", 7), put("a", 1)}, {put("\x00", 2)}}, tombs: []api.Tomb{ranged("", "z", 4), ranged("a", "b", 3)}, seq: 5},
		"empty values":            {dealt: [][]api.Entry{{{Key: "a", Seq: 1, Kind: 1}, put("b", 1), {Key: "b", Seq: 2, Kind: 1}}}, seq: 5},
		"long keys":               {dealt: [][]api.Entry{{put(long, 1), put(long+"a", 1), put("\x00", 2), put("z"+long, 1), put("m"+long, 1)}}, tombs: []api.Tomb{ranged("m", "n", 2), ranged(long, "b", 2), ranged("a", "zz"+long, 2)}, seq: 5},
		"tombs by numbers":        {dealt: [][]api.Entry{{put("a", 4), put("b", 4), put("c", 4), put("d", 4), put("e", 4), put("f", 4)}}, tombs: []api.Tomb{ranged("a", "b", 3), ranged("b", "c", 4), ranged("c", "d", 5), ranged("d", "e", 6), ranged("e", "f", 7)}, seq: 6},
		"tombs over one another":  {dealt: [][]api.Entry{{put("a", 4), put("b", 4), put("c", 4), put("c", 2), put("d", 4), put("e", 6)}}, tombs: []api.Tomb{ranged("a", "f", 2), ranged("b", "d", 5), ranged("c", "e", 9), ranged("c", "e", 3), ranged("b", "d", 5)}, seq: 6},
		"tombs that are none":     {dealt: [][]api.Entry{{put("a", 1), put("b", 1), put("c", 1)}}, tombs: []api.Tomb{ranged("", "z", 3), ranged("b", "b", 3), ranged("c", "a", 3), ranged("a", "b", api.MaxSeq+1), ranged("a", "", 3), ranged("a", "b\x00"+long, 3)}, seq: math.MaxUint64},
		"a tomb over all":         {dealt: [][]api.Entry{{put("a", 1), put("b", 1), put("c", 1)}, {put("b", 2), put("d", 3)}}, tombs: []api.Tomb{ranged("\x00", "\xff", 4)}, seq: 5},
		"a tomb, and one ahead":   {dealt: [][]api.Entry{{put("a", 1), put("a", 3), put("a", 5), del("b", 2), put("b", 5), put("c", 1)}}, tombs: []api.Tomb{ranged("a", "c", 4)}, seq: 5},
		"what is hidden and not":  {dealt: [][]api.Entry{{put("a", 1), put("b", 3), del("c", 5)}, {put("b", 1), put("c", 4), put("d", 2)}}, tombs: []api.Tomb{ranged("a", "b", 2), ranged("d", "e", 2)}, seq: 5},
		"number 0":                {dealt: [][]api.Entry{{put("a", 0), del("b", 0), put("b", 0), put("c", 1)}}, tombs: []api.Tomb{ranged("a", "b", 0)}, seq: 0},
		"the greatest number":     {dealt: [][]api.Entry{{put("a", api.MaxSeq), put("a", 1), put("b", api.MaxSeq-1), put("c", api.MaxSeq), put("d", api.MaxSeq+1), put("d", 2)}}, tombs: []api.Tomb{ranged("a", "c", api.MaxSeq)}, seq: api.MaxSeq},
		"numbers above all":       {dealt: [][]api.Entry{{put("a", math.MaxUint64), put("a", 1), del("b", math.MaxUint64), put("b", 1), put("c", math.MaxUint64-1), put("d", api.MaxSeq+1), del("d", api.MaxSeq)}}, tombs: []api.Tomb{ranged("a", "c", api.MaxSeq)}, seq: math.MaxUint64},
		"just below the greatest": {dealt: [][]api.Entry{{put("a", math.MaxUint64), put("a", 1), put("b", math.MaxUint64-1)}}, seq: math.MaxUint64 - 1},
		"bytes":                   {dealt: [][]api.Entry{{put("a", 1), put("a\x00", 1), put("a\x00\x00", 2), put("ab", 1), put("\xff", 1), put("\xff\xff", 1), put("\x00", 1)}}, tombs: []api.Tomb{ranged("a\x00", "ab", 2)}, seq: 5},
	}
}

// bounds are least and limit: none, alone and both, at keys and between two, limit at least and below it, and empty between.
func bounds() [][2]string {
	return [][2]string{{"", ""}, {"b", ""}, {"", "c"}, {"b", "d"}, {"b", "c"}, {"aa", ""}, {"", "bb"}, {"aa", "cc"}, {"b", "b"}, {"c", "b"}, {"bb", "bbb"}, {"", "\x00"}, {"\x00", ""}, {"\xff\xff\xff", ""}, {"", "\xff\xff\xff"}, {"a", "a\x00"}, {"a\x00", "b"}, {"", "a"}, {"e", "f"}, {"c", "\xff"}}
}

// eachScene goes through all scenes, between all bounds.
func eachScene(do func(what string, s scene)) {
	for name, s := range scenes() {
		for _, b := range bounds() {
			s.least, s.limit = b[0], b[1]
			do(fmt.Sprintf("%s, from %q to %q", name, s.least, s.limit), s)
		}
	}
}

// chanceScene makes entries and tombs of few keys and numbers, so that many meet.
func chanceScene(chance *rand.Rand) scene {
	s := scene{dealt: make([][]api.Entry, chance.Intn(5)), seq: uint64(chance.Intn(10))}
	most := 1 + chance.Intn(14)
	for i := range s.dealt {
		for range chance.Intn(most) {
			s.dealt[i] = append(s.dealt[i], chanceEntry(chance))
		}
	}
	s.dealt = marked(s.dealt...)
	for range chance.Intn(5) {
		s.tombs = append(s.tombs, ranged(chanceKey(chance), chanceKey(chance), uint64(chance.Intn(10))))
	}
	if chance.Intn(2) == 0 {
		s.least = chanceKey(chance)
	}
	if chance.Intn(2) == 0 {
		s.limit = chanceKey(chance)
	}
	return s
}

func chanceKey(chance *rand.Rand) string {
	return []string{"", "a", "a\x00", "b", "ba", "bb", "c", "d", "e"}[chance.Intn(9)]
}

func chanceEntry(chance *rand.Rand) api.Entry {
	return api.Entry{Key: chanceKey(chance), Seq: uint64(chance.Intn(10)), Kind: []int{0, 1, 1, 1, 1, 2, 255, -1}[chance.Intn(8)]}
}

// chanceCall is mostly one of the two that go by one.
func chanceCall(chance *rand.Rand) call {
	if i := chance.Intn(20); i < 2 {
		return calls()[i]
	} else if i < 5 {
		return seek(chanceKey(chance))
	}
	return calls()[2+chance.Intn(2)]
}
