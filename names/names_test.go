package names

import (
	"fmt"
	"math"
	"math/rand"
	"slices"
	"strings"
	"testing"

	"moraine/api"
)

// named holds Name's and Parse's answers of one file against its name.
func named(t *testing.T, kind, number int, want string) {
	t.Helper()
	if s, e := Name(kind, number); s != want || e != api.OK {
		t.Errorf("Name(%d, %d) = %q, %d, want %q", kind, number, s, e, want)
	}
	if k, n, e := Parse(want); k != kind || n != number || e != api.OK {
		t.Errorf("Parse(%q) = %d, %d, %d, want %d, %d", want, k, n, e, kind, number)
	}
}

func nameless(t *testing.T, kind, number int) {
	t.Helper()
	if s, e := Name(kind, number); s != "" || e != api.ErrName {
		t.Errorf("Name(%d, %d) = %q, %d", kind, number, s, e)
	}
}

func noName(t *testing.T, name string) {
	t.Helper()
	if k, n, e := Parse(name); k != 0 || n != 0 || e != api.ErrName {
		t.Errorf("Parse(%q) = %d, %d, %d", name, k, n, e)
	}
}

func TestKinds(t *testing.T) {
	if FileLog != 1 || FileTable != 2 || FileManifest != 3 || FileCurrent != 4 || FileTemp != 5 {
		t.Error(FileLog, FileTable, FileManifest, FileCurrent, FileTemp)
	}
}

// P6.1 and P6.2, the chapter's example 1
func TestNameExamples(t *testing.T) {
	named(t, FileLog, 12, "000012.log")
	named(t, FileTable, 1234567, "1234567.tab")
	named(t, FileManifest, 5, "MANIFEST-000005")
	named(t, FileCurrent, 0, "CURRENT")
	nameless(t, FileLog, 0)
	noName(t, "0000012.log")
	noName(t, "12.log")
}

// P6.1 and P6.2: the edges of numbers, of each kind.
func TestNumbers(t *testing.T) {
	for _, x := range []struct {
		number int
		digits string
	}{{1, "000001"}, {10, "000010"}, {99999, "099999"}, {100000, "100000"}, {999999, "999999"}, {1000000, "1000000"}, {1999999999, "1999999999"}, {api.MaxNumber, "2147483647"}} {
		named(t, FileLog, x.number, x.digits+".log")
		named(t, FileTable, x.number, x.digits+".tab")
		named(t, FileManifest, x.number, "MANIFEST-"+x.digits)
		named(t, FileTemp, x.number, x.digits+".tmp")
		nameless(t, FileCurrent, x.number)
	}
	for _, number := range []int{math.MinInt, -1 << 32, -1000000, -1, 0, api.MaxNumber + 1, 1<<32 + 1, math.MaxInt} {
		for _, kind := range []int{FileLog, FileTable, FileManifest, FileTemp} {
			nameless(t, kind, number)
		}
		if number != 0 {
			nameless(t, FileCurrent, number)
		}
	}
	for _, kind := range []int{math.MinInt, -4, -1, 0, 6, 7, 1<<32 + 1, math.MaxInt} {
		for _, number := range []int{-1, 0, 1, 12, api.MaxNumber, api.MaxNumber + 1} {
			nameless(t, kind, number)
		}
	}
}

// P6.2: what is nearly a name.
func TestNoNames(t *testing.T) {
	for _, name := range []string{
		"", "\n", ".", "0", "000012", ".log", ".tab", ".tmp", "MANIFEST-", "MANIFEST", "MANIFEST-.log",
		"CURREN", "current", "CURRENT\n", " CURRENT", "CURRENT0", "CURRENT-000000", "000000CURRENT", "CURRENT.log", "Current",
		"000000.log", "000000.tab", "000000.tmp", "MANIFEST-000000", "00000.log", "0000000.log",
		"00012.log", "0000012.tab", "00000000000000000012.tmp", "MANIFEST-5", "MANIFEST-0000005",
		"+00012.log", "-00012.log", "+000012.log", "-000012.log", "MANIFEST-+00005", "MANIFEST--00005", "MANIFEST--000005",
		"000012.log ", " 000012.log", "000012.log\n", "000012.logs", "000012.lo", "000012log", "000012..log", "000012.LOG", "000012.log.log", "000012.tab.log", "000012.", "000012.tmp\x00",
		"000 12.log", "00001a.log", "0x0012.log", "1_0000.log", "00_012.log", "1e0005.log", "000012\xff.log", "00001\xd9\xa2.log", "\xef\xbc\x91\xef\xbc\x92.log",
		"MANIFEST-000005\n", "MANIFEST-000005 ", "manifest-000005", "MANIFEST-000005.log", "MANIFEST_000005", "MANIFEST-MANIFEST-000005", "xMANIFEST-000005", "000005-MANIFEST", "MANIFEST000005",
		"2147483648.log", "2147483649.tab", "2999999999.tmp", "MANIFEST-2147483650", "4294967297.log", "4294967308.tab", "9999999999.log", "10000000000.log",
		"18446744073709551628.log", "9223372036854775808.tmp", "340282366920938463463374607431768211468.log", strings.Repeat("9", 1000) + ".log", strings.Repeat("0", 100000) + "12.log",
	} {
		noName(t, name)
	}
}

// P6.2: a name of which one byte is another, is gone or is too many has the kind and number of which it is the Name, or none.
func TestParseNearNames(t *testing.T) {
	parsed := func(name string) {
		t.Helper()
		for kind := 1; kind <= 5; kind++ {
			for _, number := range []int{0, numberIn(name)} {
				if again, e := plainName(kind, number); e == api.OK && again == name {
					named(t, kind, number, name)
					return
				}
			}
		}
		noName(t, name)
	}
	for _, name := range []string{"000012.log", "1234567.tab", "000007.tmp", "MANIFEST-000005", "MANIFEST-2147483647", "CURRENT", "2147483640.log", "999999.tab"} {
		for at := range len(name) {
			parsed(name[:at] + name[at+1:])
			for b := range 256 {
				one := string([]byte{byte(b)})
				parsed(name[:at] + one + name[at+1:])
				parsed(name[:at] + one + name[at:])
				parsed(name + one)
			}
		}
	}
}

// numberIn tells the number that the digits of a name are, all others left out.
func numberIn(name string) int {
	n := 0
	for _, b := range []byte(name) {
		if b >= '0' && b <= '9' && n <= math.MaxInt32 {
			n = n*10 + int(b-'0')
		}
	}
	return n
}

// P6.9: Parse of Name is what was named, and no two have one name.
func TestThereAndBackNames(t *testing.T) {
	type file struct{ kind, number int }
	files := map[string]file{}
	r := rand.New(rand.NewSource(6))
	for i := range 20000 {
		number := r.Int() >> (32 + r.Intn(31))
		if i < 3000 {
			number = i
		}
		for kind := 0; kind <= 6; kind++ {
			want, wantE := plainName(kind, number)
			name, e := Name(kind, number)
			if name != want || e != wantE {
				t.Fatalf("Name(%d, %d) = %q, %d, want %q, %d", kind, number, name, e, want, wantE)
			}
			if e != api.OK {
				continue
			}
			named(t, kind, number, name)
			if len(name) > api.MaxName {
				t.Errorf("%q: no disk takes it", name)
			}
			if other, there := files[name]; there && other != (file{kind, number}) {
				t.Errorf("%q names %v and %v", name, other, file{kind, number})
			}
			files[name] = file{kind, number}
		}
	}
}

// P6.3, the chapter's example 2
func TestSortExample(t *testing.T) {
	got := Sort([]string{"CURRENT", "000010.tab", "x", "000009.log", "000010.log"})
	if want := []string{"000009.log", "000010.log", "000010.tab", "CURRENT", "x"}; !slices.Equal(got, want) {
		t.Errorf("%q", got)
	}
}

// P6.3: any list, shuffled, is told in one order, names alike as often as they are there.
func TestSort(t *testing.T) {
	for _, order := range [][]string{
		nil,
		{"x"},
		{"000001.log"},
		{"x", "x", "x"},
		{"", "", "\x00", "\x00\x00", "\x7f", "\x80", "\xc3\xa9", "\xff"},
		{"999999.log", "1000000.log", "2147483647.log", "000001.tab"},
		{
			"000001.log", "000002.log", "000002.log", "000010.log", "999999.log", "1000000.log", "2147483647.log",
			"000001.tab", "000010.tab", "999998.tab", "1000000.tab", "1000000.tab",
			"MANIFEST-000001", "MANIFEST-000009", "MANIFEST-000010", "MANIFEST-1000000",
			"CURRENT", "CURRENT",
			"000001.tmp", "000003.tmp", "2000000000.tmp",
			"", "\x00", " 000001.log", "000000.log", "0000001.log", "000001.LOG", "1.log", "10.log", "2.log", "2147483648.log", "A", "MANIFEST-", "a", "a", "aa", "b", "current", "\xff",
		},
	} {
		r := rand.New(rand.NewSource(7))
		for range 50 {
			l := slices.Clone(order)
			r.Shuffle(len(l), func(i, j int) { l[i], l[j] = l[j], l[i] })
			given := slices.Clone(l)
			if got := Sort(l); !slices.Equal(got, order) {
				t.Fatalf("Sort(%q) = %q", l, got)
			}
			if !slices.Equal(l, given) {
				t.Fatalf("changed: %q, was %q", l, given)
			}
		}
	}
}

// Rules 4 and 8: what is handed in stays as it was, its spare room too, and the answer is new memory.
func TestSortMemory(t *testing.T) {
	room := []string{"b", "a", "000001.log", "spare", "room"}
	got := Sort(room[:3])
	for i := range got[:cap(got)] {
		got[:cap(got)][i] = "written"
	}
	if got := append(got, "more"); len(got) != 4 {
		t.Error(got)
	}
	if want := []string{"b", "a", "000001.log", "spare", "room"}; !slices.Equal(room, want) {
		t.Errorf("%q", room)
	}
	one := []string{"a"}
	Sort(one)[0] = "written"
	if one[0] != "a" || len(Sort(nil)) != 0 || len(Sort([]string{})) != 0 || len(Sort(room[:0])) != 0 {
		t.Error(one)
	}
}

// P6.4
func TestCurrent(t *testing.T) {
	for _, number := range []int{1, 5, 999999, 1000000, api.MaxNumber} {
		want := fmt.Sprintf("MANIFEST-%06d\n", number)
		if s, e := Current(number); s != want || e != api.OK {
			t.Errorf("Current(%d) = %q, %d", number, s, e)
		}
		if n, e := Named(want); n != number || e != api.OK {
			t.Errorf("Named(%q) = %d, %d", want, n, e)
		}
	}
	for _, number := range []int{math.MinInt, -1, 0, api.MaxNumber + 1, math.MaxInt} {
		if s, e := Current(number); s != "" || e != api.ErrName {
			t.Errorf("Current(%d) = %q, %d", number, s, e)
		}
	}
	for _, s := range []string{
		"", "\n", "MANIFEST-000005", "MANIFEST-000005\n\n", "MANIFEST-000005 \n", "MANIFEST-000005\r\n", "\nMANIFEST-000005\n", "MANIFEST-000005\nx", "MANIFEST-000005\\n",
		"CURRENT\n", "CURRENT", "000005.log\n", "000005.tab\n", "000005.tmp\n", "000005\n", "MANIFEST-\n", "MANIFEST-5\n", "MANIFEST-0000005\n", "MANIFEST-000000\n", "MANIFEST-2147483648\n",
	} {
		if n, e := Named(s); n != 0 || e != api.ErrName {
			t.Errorf("Named(%q) = %d, %d", s, n, e)
		}
	}
}

// P6.9: Named of Current is the number.
func TestThereAndBackCurrent(t *testing.T) {
	r := rand.New(rand.NewSource(8))
	for range 2000 {
		number := 1 + r.Intn(api.MaxNumber)
		s, e := Current(number)
		if n, e2 := Named(s); n != number || e != api.OK || e2 != api.OK {
			t.Fatalf("%d: %q, %d; %d, %d", number, s, e, n, e2)
		}
	}
}
