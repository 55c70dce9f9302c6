package live

import (
	"fmt"
	"math"
	"regexp"
	"slices"
	"strconv"
	"testing"

	"moraine/api"
	"moraine/version"
)

// What the chapter says, word by word and without the package's own functions: the tests hold the package against it.

// brief tells the beginning of anything.
func brief(x any) string {
	s := fmt.Sprintf("%+v", x)
	return s[:min(len(s), 300)]
}

func f(number int, least, limit string) api.File {
	return api.File{Number: number, Size: 10, Least: least, Limit: limit, Low: 1, High: 1}
}

// with are levels with some tables, all in level 0.
func with(numbers ...int) api.Levels {
	l := make(api.Levels, 3)
	for _, n := range numbers {
		l[0] = append(l[0], f(n, "a", "b"))
	}
	return l
}

// wide are levels with empty ones between others.
func wide() api.Levels {
	return api.Levels{{f(4, "c", "k"), f(11, "a", "f"), f(12, "c", "k")}, nil, {f(9, "b", "d"), f(2, "d", "e"), f(10, "g", "h\x00")}, {}, {f(1, "a", "z")}}
}

// notLevels are levels that are no version's.
func notLevels() []api.Levels {
	return []api.Levels{
		nil, {}, make(api.Levels, api.MaxLevels+1), with(0), with(-1), with(api.MaxNumber + 1), with(5, 3), with(3, 3),
		{nil, {f(2, "a", "c"), f(4, "b", "d")}}, {nil, {f(2, "b", "c"), f(4, "a", "b")}}, {{f(3, "a", "b")}, {f(3, "a", "b")}},
		{{f(3, "b", "a")}}, {{f(3, "", "a")}}, {{{}}}, {{{Number: 3, Size: 10, Least: "a", Limit: "b", Low: 2, High: 1}}},
		{{{Number: 3, Least: "a", Limit: "b", Low: 1, High: 1}}},
	}
}

// plainSet has each version that was ever installed: that with the number n stands at n - 1.
type plainSet struct {
	levels  []api.Levels
	held    []int
	writing []int
}

func (p *plainSet) last() int { return len(p.levels) }

func (p *plainSet) isHeld(number int) bool {
	return number >= 1 && number <= p.last() && p.held[number-1] > 0
}

func (p *plainSet) isThere(number int) bool {
	return p.isHeld(number) || number == p.last()
}

func (p *plainSet) install(l api.Levels) int {
	if !version.Valid(l) {
		return 0
	}
	p.levels, p.held = append(p.levels, apart(l)), append(p.held, 0)
	return p.last()
}

func (p *plainSet) drop(number int) api.Errno {
	if !p.isHeld(number) {
		return api.ErrRefs
	}
	p.held[number-1]--
	return api.OK
}

func (p *plainSet) begin(number int) api.Errno {
	switch {
	case number < 1 || number > 1<<31-1:
		return api.ErrArg
	case slices.Contains(p.writing, number):
		return api.ErrThere
	}
	p.writing = append(p.writing, number)
	return api.OK
}

func (p *plainSet) end(number int) api.Errno {
	i := slices.Index(p.writing, number)
	if i < 0 {
		return api.ErrMissing
	}
	p.writing = slices.Delete(p.writing, i, i+1)
	return api.OK
}

func (p *plainSet) len() int {
	n := 0
	for i := range p.levels {
		if p.isThere(i + 1) {
			n++
		}
	}
	return n
}

func (p *plainSet) tables() []int {
	out := slices.Clone(p.writing)
	for i, l := range p.levels {
		if p.isThere(i + 1) {
			out = append(out, version.Numbers(l)...)
		}
	}
	slices.Sort(out)
	return slices.Compact(out)
}

// forms are those of the names with a number, by the order of their kinds.
var forms = []*regexp.Regexp{
	regexp.MustCompile(`^(\d{6}|[1-9]\d{6,})\.log$`), regexp.MustCompile(`^(\d{6}|[1-9]\d{6,})\.tab$`),
	regexp.MustCompile(`^MANIFEST-(\d{6}|[1-9]\d{6,})$`), regexp.MustCompile(`^(\d{6}|[1-9]\d{6,})\.tmp$`),
}

// plainNumber tells the number in a name of a form; 0, if it is none.
func plainNumber(name string, form *regexp.Regexp) int {
	m := form.FindStringSubmatch(name)
	if m == nil {
		return 0
	}
	n, e := strconv.ParseInt(m[1], 10, 64)
	if e != nil || n > 1<<31-1 {
		return 0
	}
	return int(n)
}

func (p *plainSet) obsolete(names []string, log, manifest int) []string {
	var out []string
	tables := p.tables()
	for kind, form := range forms {
		var ofKind []string
		for _, name := range names {
			n := plainNumber(name, form)
			needed := []bool{!(n < log), slices.Contains(tables, n), n == manifest, false}[kind]
			if n > 0 && !needed {
				ofKind = append(ofKind, name)
			}
		}
		slices.SortFunc(ofKind, func(a, b string) int { return plainNumber(a, form) - plainNumber(b, form) })
		out = append(out, ofKind...)
	}
	return out
}

// apart tells the same levels in new memory.
func apart(l api.Levels) api.Levels {
	out := make(api.Levels, len(l))
	for level := range l {
		out[level] = slices.Clone(l[level])
	}
	return out
}

// same tells whether levels are the same: a list without an element may be nil or empty.
func same(a, b api.Levels) bool {
	return len(a) == len(b) && slices.EqualFunc(a, b, slices.Equal[[]api.File])
}

// tableNames are the names of the tables from 1 on.
func tableNames(most int) []string {
	var out []string
	for n := range most {
		out = append(out, fmt.Sprintf("%06d.tab", n+1))
	}
	return out
}

// diskNames are names of each kind, some twice, and such that are none.
func diskNames() []string {
	out := []string{"CURRENT", "x", "", "000001.TAB", "00001.tab", "0000001.tab", "000000.tab", "000000.log", "2147483648.tab", "2147483648.log", "MANIFEST-000000", "MANIFEST-", "CURRENT.tmp", "000003.tab ", "000003.log\n", "CURRENT"}
	for _, n := range []int{api.MaxNumber, 12, 3, 3, 999999, 1000000, 7, 1} {
		for _, form := range []string{"MANIFEST-%06d", "%06d.tmp", "%06d.log", "%06d.tab", "x%06d", "%06d"} {
			out = append(out, fmt.Sprintf(form, n))
		}
	}
	return append(out, tableNames(20)...)
}

// numbers are such as no version, log, file has, or as the least and the greatest may have.
func numbers() []int {
	return []int{math.MinInt, -1 << 31, -2, -1, 0, 1, 2, api.MaxNumber - 1, api.MaxNumber, api.MaxNumber + 1, 1<<32 + 1, math.MaxInt}
}

// pair is a set, and what the chapter's words say of it.
type pair struct {
	t *testing.T
	s *Set
	p *plainSet
}

func newPair(t *testing.T, l api.Levels) *pair {
	t.Helper()
	x := &pair{t, New(l), &plainSet{}}
	if x.s == nil || x.p.install(l) != 1 {
		t.Fatalf("none was made of %s", brief(l))
	}
	x.look("New")
	return x
}

func (x *pair) install(l api.Levels, want int) {
	x.t.Helper()
	what := "Install of " + brief(l)
	if got, plain := x.s.Install(l), x.p.install(l); got != want || plain != want {
		x.t.Errorf("%s: %d, by the chapter's words %d, want %d", what, got, plain, want)
	}
	x.look(what)
}

func (x *pair) hold(want int) {
	x.t.Helper()
	x.p.held[x.p.last()-1]++
	if got := x.s.Hold(); got != want || x.p.last() != want {
		x.t.Errorf("Hold: %d, by the chapter's words %d, want %d", got, x.p.last(), want)
	}
	x.look("Hold")
}

// asked holds a call with a number and an error against what the chapter says.
func (x *pair) asked(what string, got, plain func(int) api.Errno, number int, want api.Errno) {
	x.t.Helper()
	if e, p := got(number), plain(number); e != want || p != want {
		x.t.Errorf("%s(%d): error %d, by the chapter's words %d, want %d", what, number, int(e), int(p), int(want))
	}
	x.look(fmt.Sprint(what, " ", number))
}

func (x *pair) drop(number int, want api.Errno) {
	x.t.Helper()
	x.asked("Drop", x.s.Drop, x.p.drop, number, want)
}

func (x *pair) begin(number int, want api.Errno) {
	x.t.Helper()
	x.asked("Begin", x.s.Begin, x.p.begin, number, want)
}

func (x *pair) end(number int, want api.Errno) {
	x.t.Helper()
	x.asked("End", x.s.End, x.p.end, number, want)
}

// look expects of all calls that only tell what the chapter says.
func (x *pair) look(what string) {
	x.t.Helper()
	last := x.p.last()
	if number, l := x.s.Current(); number != last || !same(l, x.p.levels[last-1]) {
		x.t.Errorf("behind %s: Current is %d, %s", what, number, brief(l))
	}
	if n := x.s.Len(); n != x.p.len() {
		x.t.Errorf("behind %s: Len is %d, want %d", what, n, x.p.len())
	}
	for number := -2; number < last+3; number++ {
		x.lookAt(what, number)
	}
	for _, number := range numbers() {
		x.lookAt(what, number)
	}
	if got, want := x.s.Tables(), x.p.tables(); !slices.Equal(got, want) {
		x.t.Errorf("behind %s: Tables are %v, want %v", what, got, want)
	}
	x.obsolete(what, diskNames(), 3, 7)
	x.obsolete(what, diskNames(), 0, -1)
}

// lookAt expects the same of one version.
func (x *pair) lookAt(what string, number int) {
	x.t.Helper()
	held, want, wantErr := 0, api.Levels(nil), api.ErrRefs
	if x.p.isHeld(number) {
		held = x.p.held[number-1]
	}
	if x.p.isThere(number) {
		want, wantErr = x.p.levels[number-1], api.OK
	}
	if n := x.s.Refs(number); n != held {
		x.t.Errorf("behind %s: Refs of %d are %d, want %d", what, number, n, held)
	}
	if l, e := x.s.Levels(number); e != wantErr || !same(l, want) {
		x.t.Errorf("behind %s: Levels of %d are %s, error %d; want %s, error %d", what, number, brief(l), int(e), brief(want), int(wantErr))
	}
}

func (x *pair) obsolete(what string, names []string, log, manifest int) {
	x.t.Helper()
	if got, want := x.s.Obsolete(names, log, manifest), x.p.obsolete(names, log, manifest); !slices.Equal(got, want) {
		x.t.Errorf("behind %s: Obsolete with log %d and manifest %d is %q, want %q", what, log, manifest, got, want)
	}
}
