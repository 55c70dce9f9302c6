package drop

import (
	"cmp"
	"fmt"
	"math"
	"math/rand"
	"slices"
	"strings"

	"moraine/api"
)

// What the chapter says, word by word and without the package's own functions: the tests hold the package against it.

// brief tells the beginning of anything.
func brief(x any) string {
	s := fmt.Sprintf("%+v", x)
	return s[:min(len(s), 600)]
}

func put(key string, seq uint64) api.Entry {
	return api.Entry{Key: key, Seq: seq, Kind: api.KindPut, Value: fmt.Sprint(key, " of ", seq)}
}

func del(key string, seq uint64) api.Entry { return api.Entry{Key: key, Seq: seq} }

func kind(key string, seq uint64, kind int) api.Entry {
	return api.Entry{Key: key, Seq: seq, Kind: kind, Value: fmt.Sprint("kind ", kind)}
}

func ranged(begin, end string, seq uint64) api.Tomb {
	return api.Tomb{Begin: begin, End: end, Seq: seq}
}

func file(least, limit string) api.File { return api.File{Least: least, Limit: limit} }

// told writes entries and tombs so that they can be held against a text.
func told(l []api.Entry, t []api.Tomb) string {
	var words []string
	for _, x := range l {
		words = append(words, fmt.Sprintf("%s %d %s", x.Key, x.Seq, kindName(x.Kind)))
	}
	for _, x := range t {
		words = append(words, fmt.Sprintf("[%s %s) %d", x.Begin, x.End, x.Seq))
	}
	return strings.Join(words, ", ")
}

func kindName(kind int) string {
	switch kind {
	case api.KindDelete:
		return "del"
	case api.KindPut:
		return "put"
	}
	return fmt.Sprint(kind)
}

// scene is all that is handed in.
type scene struct {
	entries []api.Entry
	tombs   []api.Tomb
	rule    Rule
}

func (s scene) kept() ([]api.Entry, []api.Tomb) { return Entries(s.entries, s.tombs, s.rule) }

// plainStripe counts the unlike ones of snaps that are below a number.
func plainStripe(snaps []uint64, seq uint64) int {
	below := map[uint64]int{}
	for _, s := range snaps {
		if s < seq {
			below[s]++
		}
	}
	return len(below)
}

// isOfLast tells whether a number's stripe is the last one: the number is above all of snaps.
func isOfLast(snaps []uint64, seq uint64) bool {
	return !slices.ContainsFunc(snaps, func(s uint64) bool { return s >= seq })
}

func plainBears(below []api.File, key string) bool {
	return slices.ContainsFunc(below, func(f api.File) bool { return f.Least <= key && f.Limit > key })
}

func plainOverlaps(below []api.File, t api.Tomb) bool {
	return slices.ContainsFunc(below, func(f api.File) bool { return f.Least < t.End && f.Limit > t.Begin })
}

func isValid(t api.Tomb) bool {
	return t.Begin != "" && len(t.Begin) <= api.MaxKey && len(t.End) <= api.MaxKey+1 && t.Begin < t.End && t.Seq <= api.MaxSeq
}

func covers(t api.Tomb, key string) bool { return isValid(t) && key >= t.Begin && key < t.End }

// compare is the order of entries.
func compare(a, b api.Entry) int {
	return cmp.Or(cmp.Compare(a.Key, b.Key), cmp.Compare(b.Seq, a.Seq), cmp.Compare(b.Kind, a.Kind))
}

// plainEntries tells the entries that must be kept; each one is held against all others.
func (s scene) plainEntries() []api.Entry {
	l := slices.Clone(s.entries)
	slices.SortStableFunc(l, compare)
	var kept []api.Entry
	for i, x := range l {
		if isOfLast(s.rule.Snaps, x.Seq) || !s.isLeftOut(x, l[:i]) {
			kept = append(kept, x)
		}
	}
	return kept
}

// isLeftOut asks an entry of another stripe than the last, with those ahead of it in their order.
func (s scene) isLeftOut(x api.Entry, ahead []api.Entry) bool {
	stripe := plainStripe(s.rule.Snaps, x.Seq)
	for _, y := range ahead {
		if y.Key == x.Key && plainStripe(s.rule.Snaps, y.Seq) == stripe {
			return true
		}
	}
	for _, t := range s.tombs {
		if covers(t, x.Key) && t.Seq > x.Seq && plainStripe(s.rule.Snaps, t.Seq) == stripe {
			return true
		}
	}
	return x.Kind == api.KindDelete && stripe == 0 && !plainBears(s.rule.Below, x.Key)
}

// plainTombs tells the tombs that must be kept.
func (s scene) plainTombs() []api.Tomb {
	var kept []api.Tomb
	for _, t := range s.tombs {
		isFirst := plainStripe(s.rule.Snaps, t.Seq) == 0 && !isOfLast(s.rule.Snaps, t.Seq)
		if isValid(t) && (!isFirst || plainOverlaps(s.rule.Below, t)) {
			kept = append(kept, t)
		}
	}
	return kept
}

// plainSeen tells what is seen at a number: of each key the first entry among those that count, if it is a put that no tomb hides.
func plainSeen(l []api.Entry, t []api.Tomb, seq uint64) map[string]string {
	first := map[string]api.Entry{}
	for _, x := range l {
		if was, there := first[x.Key]; x.Seq <= seq && (!there || compare(x, was) < 0) {
			first[x.Key] = x
		}
	}
	seen := map[string]string{}
	for _, x := range first {
		isHidden := slices.ContainsFunc(t, func(t api.Tomb) bool { return covers(t, x.Key) && t.Seq <= seq && t.Seq > x.Seq })
		if x.Kind == api.KindPut && !isHidden {
			seen[x.Key] = x.Value
		}
	}
	return seen
}

// marked gives each entry a value that no other one has: its place.
func marked(l []api.Entry) []api.Entry {
	l = slices.Clone(l)
	for i := range l {
		l[i].Value = fmt.Sprint("at ", i)
	}
	return l
}

// rules are snaps of each sort that the chapter's words name, each with files below of each sort.
func rules() map[string]Rule {
	snaps := map[string][]uint64{
		"nil":                 nil,
		"empty":               {},
		"one":                 {5},
		"0":                   {0},
		"0 and one":           {5, 0},
		"two":                 {4, 7},
		"falling":             {8, 6, 3},
		"some twice":          {6, 3, 6, 6, 3, 8},
		"side by side":        {4, 5, 6},
		"above all":           {100},
		"the greatest":        {math.MaxUint64},
		"the greatest and 0":  {math.MaxUint64, 5, 0, math.MaxUint64},
		"the greatest of ops": {api.MaxSeq, 2},
		"right below it":      {api.MaxSeq - 1},
	}
	below := map[string][]api.File{
		"none":             nil,
		"over all":         {file("", "\xff\xff")},
		"one":              {file("b", "c")},
		"at a key":         {file("a\x00", "b")},
		"one key":          {file("b", "b\x00")},
		"over one another": {file("a", "c"), file("b", "d"), file("bb", "c")},
		"not above":        {file("b", "b"), file("d", "a")},
		"apart":            {file("c", "d"), file("a", "aa")},
		"the empty key":    {file("", "\x00")},
	}
	out := map[string]Rule{}
	for a, s := range snaps {
		for b, f := range below {
			out["snaps "+a+", below "+b] = Rule{Snaps: s, Below: f}
		}
	}
	return out
}

// lists are entries and tombs of each sort that the chapter's words name.
func lists() map[string]scene {
	long := strings.Repeat("b", api.MaxKey)
	return map[string]scene{
		"nothing":                {},
		"one":                    {entries: []api.Entry{put("b", 5)}},
		"a deletion":             {entries: []api.Entry{del("b", 5), del("b", 6), del("c", 9), del("a", 1)}},
		"many of a key":          {entries: []api.Entry{put("b", 3), put("b", 9), put("b", 1), put("b", 7), put("b", 5), put("b", 4), put("b", 6), put("b", 8), put("b", 2), put("b", 0)}},
		"deletions and puts":     {entries: []api.Entry{del("b", 9), put("b", 8), del("b", 7), del("b", 6), put("b", 5), del("b", 4), put("b", 3), del("b", 2), put("b", 1), del("a", 4), put("a", 3), put("c", 3)}},
		"alike":                  {entries: marked([]api.Entry{put("b", 5), put("a", 5), put("b", 5), del("a", 5), put("b", 5), del("a", 5), put("b", 9), put("b", 9), put("a", 9)})},
		"kinds":                  {entries: []api.Entry{kind("a", 5, 0), kind("a", 5, 1), kind("b", 5, 2), kind("b", 5, 0), kind("b", 4, 255), kind("c", 5, -1), kind("c", 5, 0), kind("c", 4, 1), kind("d", 3, 7), kind("d", 1, math.MaxInt), kind("e", 2, math.MinInt)}},
		"tombs by numbers":       {entries: []api.Entry{put("a", 4), put("b", 4), put("c", 4), put("d", 4), put("e", 4), put("f", 4)}, tombs: []api.Tomb{ranged("a", "b", 3), ranged("b", "c", 4), ranged("c", "d", 5), ranged("d", "e", 6), ranged("e", "f", 9)}},
		"tombs over one another": {entries: []api.Entry{put("a", 4), put("b", 4), put("c", 6), put("c", 2), del("d", 4), put("e", 6)}, tombs: []api.Tomb{ranged("a", "f", 2), ranged("b", "d", 5), ranged("c", "e", 9), ranged("c", "e", 3), ranged("b", "d", 5), ranged("a", "z", 7)}},
		"tombs alone":            {tombs: []api.Tomb{ranged("c", "d", 5), ranged("a", "b", 3), ranged("b", "c", 5), ranged("a", "b", 3), ranged("a", "c", 9), ranged("bb", "bc", 6), ranged("\x00", "\xff", 1), ranged("d", "e", 0)}},
		"tombs that are none":    {entries: []api.Entry{put("a", 1), put("b", 1), put("c", 1), put("", 1)}, tombs: []api.Tomb{ranged("", "z", 3), ranged("b", "b", 3), ranged("c", "a", 3), ranged("a", "b", api.MaxSeq+1), ranged("a", "", 3), ranged("a", long+"xx", 3), ranged("a"+long, "b", 3), ranged("a", "b", math.MaxUint64)}},
		"tombs just so":          {entries: []api.Entry{put("b", 1), put(long, 1), put("a", 1)}, tombs: []api.Tomb{ranged("a", long+"x", 3), ranged(long, "c", 4), ranged("a", "a\x00", api.MaxSeq)}},
		"empty keys and values":  {entries: []api.Entry{{Seq: 1, Kind: 1}, {Seq: 4, Kind: 1}, {Seq: 3}, {Seq: 9}, {Key: "a", Seq: 2, Kind: 1}, {Key: "a", Seq: 1, Kind: 1, Value: "x"}}, tombs: []api.Tomb{ranged("\x00", "b", 1)}},
		"number 0":               {entries: []api.Entry{put("a", 0), del("b", 0), put("b", 0), put("c", 1)}, tombs: []api.Tomb{ranged("a", "b", 0), ranged("c", "d", 0)}},
		"the greatest numbers":   {entries: []api.Entry{put("a", math.MaxUint64), put("a", 1), del("b", math.MaxUint64), put("b", api.MaxSeq), del("b", api.MaxSeq-1), put("c", api.MaxSeq+1)}, tombs: []api.Tomb{ranged("a", "c", api.MaxSeq), ranged("b", "c", api.MaxSeq-1)}},
		"left out and yet":       {entries: []api.Entry{del("a", 4), put("a", 2), put("b", 4), put("b", 2), del("c", 3), put("c", 1), put("d", 2)}, tombs: []api.Tomb{ranged("b", "c", 5), ranged("d", "e", 3), ranged("c", "d", 2)}},
		"bytes":                  {entries: []api.Entry{put("a", 1), put("a\x00", 1), put("a\x00\x00", 2), del("ab", 1), put("\xff", 1), del("\xff\xff", 1), put("\x00", 1)}, tombs: []api.Tomb{ranged("a\x00", "ab", 2), ranged("\xff", "\xff\xff", 3)}},
	}
}

// eachScene goes through all lists, with all rules.
func eachScene(do func(what string, s scene)) {
	for name, s := range lists() {
		for rule, r := range rules() {
			s.rule = r
			do(name+", "+rule, s)
		}
	}
}

func chanceKey(chance *rand.Rand) string {
	return []string{"", "a", "a\x00", "b", "ba", "bb", "c", "d", "e"}[chance.Intn(9)]
}

func chanceEntries(chance *rand.Rand, most int, top int) []api.Entry {
	var l []api.Entry
	for range chance.Intn(most + 1) {
		l = append(l, api.Entry{Key: chanceKey(chance), Seq: uint64(chance.Intn(top)), Kind: []int{0, 0, 1, 1, 1, 1, 2, -1}[chance.Intn(8)]})
	}
	return marked(l)
}

func chanceTombs(chance *rand.Rand, most int, top int) []api.Tomb {
	var l []api.Tomb
	for range chance.Intn(most + 1) {
		l = append(l, ranged(chanceKey(chance), chanceKey(chance), uint64(chance.Intn(top))))
	}
	return l
}

// chanceScene makes entries and tombs of few keys and numbers, so that many meet.
func chanceScene(chance *rand.Rand) scene {
	top := 1 + chance.Intn(14)
	s := scene{entries: chanceEntries(chance, 14, top), tombs: chanceTombs(chance, 5, top)}
	for range chance.Intn(4) {
		s.rule.Snaps = append(s.rule.Snaps, uint64(chance.Intn(top+1)))
	}
	for range chance.Intn(4) {
		s.rule.Below = append(s.rule.Below, file(chanceKey(chance), chanceKey(chance)))
	}
	return s
}
