package live

import (
	"fmt"
	"math"
	"slices"
	"testing"

	"moraine/api"
)

// P18.3: Numbers that a file may have, and such that none has.
func TestBegin(t *testing.T) {
	x := newPair(t, with(2))
	may := []int{1, 2, api.MaxNumber - 1, api.MaxNumber}
	for _, number := range numbers() {
		want := api.ErrArg
		if slices.Contains(may, number) {
			want = api.OK
		}
		x.end(number, api.ErrMissing)
		x.begin(number, want)
	}
	if got := x.s.Tables(); !slices.Equal(got, may) {
		t.Errorf("Tables %v", got)
	}
	for _, number := range may {
		x.begin(number, api.ErrThere)
	}
	for _, number := range numbers() {
		want := api.ErrMissing
		if slices.Contains(may, number) {
			want = api.OK
		}
		x.end(number, want)
		x.end(number, api.ErrMissing)
	}
	// What is written no more can be written again.
	for _, number := range may {
		x.begin(number, api.OK)
		x.end(number, api.OK)
	}
}

// P18.3: a file that is being written, and that versions have, is needed as long as one of these asks for it.
func TestWrittenAndInstalled(t *testing.T) {
	x := newPair(t, with(2))
	expectTables := func(want ...int) {
		t.Helper()
		if got := x.s.Tables(); !slices.Equal(got, want) {
			t.Errorf("Tables %v, want %v", got, want)
		}
	}
	x.begin(2, api.OK)
	expectTables(2)
	x.begin(5, api.OK)
	x.install(with(3, 5), 2)
	expectTables(2, 3, 5)
	x.end(5, api.OK)
	expectTables(2, 3, 5)
	x.end(2, api.OK)
	expectTables(3, 5)
	x.begin(3, api.OK)
	x.install(with(), 3)
	expectTables(3)
	x.end(3, api.OK)
	expectTables()
}

// P18.3: tables that several versions share are told once, as long as one of these is there.
func TestTablesShared(t *testing.T) {
	x := newPair(t, with(2, 3, 4))
	x.hold(1)
	x.install(api.Levels{{f(4, "a", "b")}, {f(5, "a", "b"), f(3, "b", "c")}}, 2)
	x.hold(2)
	x.install(with(1, 4), 3)
	for _, c := range []struct {
		drop int
		want []int
	}{{0, []int{1, 2, 3, 4, 5}}, {1, []int{1, 3, 4, 5}}, {2, []int{1, 4}}} {
		if c.drop > 0 {
			x.drop(c.drop, api.OK)
		}
		if got := x.s.Tables(); !slices.Equal(got, c.want) {
			t.Errorf("behind Drop(%d): Tables %v, want %v", c.drop, got, c.want)
		}
	}
}

// P18.3: Numbers rise, in whatever order the files stand, came and began.
func TestTablesRise(t *testing.T) {
	var want []int
	x := newPair(t, wide())
	for i := range 40 {
		number := 1 + (i*17)%40
		x.s.Hold()
		x.s.Install(with(number*1000, api.MaxNumber-number))
		x.s.Begin(number * 7)
		want = append(want, number*1000, api.MaxNumber-number, number*7)
	}
	want = append(want, 1, 2, 4, 9, 10, 11, 12)
	slices.Sort(want)
	for range 20 {
		if got := x.s.Tables(); !slices.Equal(got, slices.Compact(want)) {
			t.Fatalf("Tables %v", got)
		}
	}
}

// P18.4: each kind of file by itself, at, below and above what is needed.
func TestObsoleteKinds(t *testing.T) {
	s := New(with(2, 7, api.MaxNumber))
	s.Begin(5)
	for _, c := range []struct {
		name          string
		log, manifest int
		want          bool
	}{
		{"000008.log", 9, 1, true}, {"000009.log", 9, 1, false}, {"000010.log", 9, 1, false}, {"000001.log", 1, 1, false}, {"000001.log", 2, 1, true},
		{"000001.log", 0, 1, false}, {"000001.log", -1, 1, false}, {"000001.log", math.MinInt, 1, false}, {"2147483647.log", math.MaxInt, 1, true},
		{"2147483647.log", api.MaxNumber, 1, false}, {"2147483647.log", api.MaxNumber + 1, 1, true}, {"000002.log", 3, 1, true},
		{"000001.tab", 9, 1, true}, {"000002.tab", 9, 1, false}, {"000003.tab", 0, 3, true}, {"000005.tab", 9, 1, false}, {"000006.tab", 9, 1, true},
		{"000007.tab", 9, 1, false}, {"2147483647.tab", 9, 1, false}, {"2147483646.tab", 9, 1, true},
		{"MANIFEST-000004", 9, 5, true}, {"MANIFEST-000005", 9, 5, false}, {"MANIFEST-000006", 9, 5, true}, {"MANIFEST-000005", 9, 0, true},
		{"MANIFEST-000005", 0, -5, true}, {"MANIFEST-2147483647", 9, api.MaxNumber, false}, {"MANIFEST-000001", 9, 1<<32 + 1, true}, {"MANIFEST-000002", 9, 1, true},
		{"000001.tmp", 1, 1, true}, {"000002.tmp", 0, 0, true}, {"000005.tmp", -1, -1, true}, {"2147483647.tmp", 1, 1, true},
		{"CURRENT", 9, 5, false}, {"CURRENT", 0, 0, false}, {"CURRENT", -1, -1, false}, {"", 9, 5, false}, {"x", 9, 5, false}, {"CURRENT.tmp", 9, 5, false},
		{"00001.tab", 9, 5, false}, {"0000001.tab", 9, 5, false}, {"000000.tab", 9, 5, false}, {"2147483648.tab", 9, 5, false}, {"000001.TAB", 9, 5, false},
		{"000000.log", 9, 5, false}, {"1.log", 9, 5, false}, {"-00001.log", 9, 5, false}, {"MANIFEST-4", 9, 5, false}, {"manifest-000004", 9, 5, false},
		{"MANIFEST-000000", 9, 5, false}, {"000000.tmp", 9, 5, false}, {"000001.tmp ", 9, 5, false}, {" 000001.tmp", 9, 5, false}, {"000001", 9, 5, false},
	} {
		got := s.Obsolete([]string{c.name}, c.log, c.manifest)
		want := []string{c.name}[:0]
		if c.want {
			want = []string{c.name}
		}
		if !slices.Equal(got, want) {
			t.Errorf("%q with log %d and manifest %d: %q", c.name, c.log, c.manifest, got)
		}
	}
}

// P18.4: no names, names handed in twice, and the order.
func TestObsoleteLists(t *testing.T) {
	s := New(with(2))
	for _, names := range [][]string{nil, {}, {"CURRENT"}, {"x", "", "x"}, {"000002.tab", "000002.tab"}} {
		if got := s.Obsolete(names, 9, 5); len(got) != 0 {
			t.Errorf("%q: %q", names, got)
		}
	}
	names := []string{"000003.tmp", "1000000.tab", "MANIFEST-000004", "999999.tab", "000002.tab", "000008.log", "x", "MANIFEST-000004", "000003.tab", "000007.log", "CURRENT", "000003.tmp", "MANIFEST-000003", "000003.tab", "000001.tmp", "1000000.log", "000008.log", "000003.tab"}
	want := []string{"000007.log", "000008.log", "000008.log", "000003.tab", "000003.tab", "000003.tab", "999999.tab", "1000000.tab", "MANIFEST-000003", "MANIFEST-000004", "MANIFEST-000004", "000001.tmp", "000003.tmp", "000003.tmp"}
	for range 3 {
		if got := s.Obsolete(names, 9, 5); !slices.Equal(got, want) {
			t.Errorf("%q, want %q", got, want)
		}
		slices.Reverse(names)
		if got := s.Obsolete(names, 9, 5); !slices.Equal(got, want) {
			t.Errorf("turned round: %q, want %q", got, want)
		}
	}
}

// P18.4: with all logs and manifests at the limits.
func TestObsoleteLimits(t *testing.T) {
	x := newPair(t, wide())
	x.hold(1)
	x.install(with(3, 12), 2)
	x.begin(8, api.OK)
	for _, log := range append(numbers(), 3, 7, 12) {
		for _, manifest := range append(numbers(), 3, 7, 12) {
			x.obsolete("Begin", diskNames(), log, manifest)
		}
	}
}

// P18.4: a file of any version that is there is needed, and one that is being written, and no other one.
func TestObsoleteOfVersions(t *testing.T) {
	x := newPair(t, with(1))
	x.hold(1)
	for n := 2; n <= 6; n++ {
		x.install(with(n), n)
		x.hold(n)
	}
	x.begin(7, api.OK)
	expect := func(want ...string) {
		t.Helper()
		if got := x.s.Obsolete(tableNames(8), 0, 0); !slices.Equal(got, want) {
			t.Errorf("%q, want %q", got, want)
		}
	}
	expect("000008.tab")
	x.drop(4, api.OK)
	expect("000004.tab", "000008.tab")
	x.drop(6, api.OK)
	expect("000004.tab", "000008.tab")
	x.end(7, api.OK)
	expect("000004.tab", "000007.tab", "000008.tab")
	x.install(with(4), 7)
	expect("000006.tab", "000007.tab", "000008.tab")
}

// All calls with many versions, files and names.
func TestMany(t *testing.T) {
	l := make(api.Levels, 1)
	for n := range 5000 {
		l[0] = append(l[0], f(2*n+1, "a", "b"))
	}
	s := New(l)
	for i := range 100 {
		l[0][4999].Number = 20000 + i
		if s.Hold() != i+1 || s.Install(l) != i+2 {
			t.Fatalf("round %d", i)
		}
	}
	if n, tables := s.Len(), s.Tables(); n != 101 || len(tables) != 5100 || tables[0] != 1 || tables[5099] != 20099 {
		t.Errorf("Len %d, %d Tables", n, len(tables))
	}
	var names []string
	for n := range 10000 {
		names = append(names, fmt.Sprintf("%06d.tab", 10000-n))
	}
	got := s.Obsolete(names, 0, 0)
	if len(got) != 5000 || got[0] != "000002.tab" || got[4999] != "010000.tab" {
		t.Errorf("%d names obsolete", len(got))
	}
	for i := range 100 {
		if e := s.Drop(i + 1); e != api.OK {
			t.Fatalf("Drop: error %d", int(e))
		}
	}
	if n, tables := s.Len(), s.Tables(); n != 1 || len(tables) != 5000 || tables[4999] != 20099 {
		t.Errorf("Len %d, %d Tables", n, len(tables))
	}
}
