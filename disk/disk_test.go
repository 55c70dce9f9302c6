package disk

import (
	"bytes"
	"math"
	"slices"
	"strconv"
	"strings"
	"testing"

	"moraine/api"
)

func is(t *testing.T, what string, got, want api.Errno) {
	t.Helper()
	if got != want {
		t.Errorf("%s: %d, want %d", what, got, want)
	}
}

// sizes holds a file's two sizes against those that are wanted.
func sizes(t *testing.T, d *Disk, name string, size, synced int) {
	t.Helper()
	if n, s, e := d.Size(name); n != size || s != synced || e != api.OK {
		t.Errorf("Size(%q) = %d, %d, %d, want %d, %d", name, n, s, e, size, synced)
	}
}

// holds holds a file's bytes against those that are wanted.
func holds(t *testing.T, d *Disk, name, want string) {
	t.Helper()
	if b, e := d.Read(name, 0, math.MaxInt); string(b) != want || e != api.OK {
		t.Errorf("Read(%q) = %q, %d, want %q", name, b, e, want)
	}
}

func fresh(t *testing.T, quota int) *Disk {
	t.Helper()
	d, e := New(quota)
	if d == nil || e != api.OK {
		t.Fatalf("New(%d) = %v, %d", quota, d, e)
	}
	return d
}

// with is a disk with files whose names are given, each with its name as bytes.
func with(t *testing.T, quota int, names ...string) *Disk {
	t.Helper()
	d := fresh(t, quota)
	for _, name := range names {
		is(t, "Create", d.Create(name), api.OK)
		is(t, "Append", d.Append(name, []byte(name)), api.OK)
	}
	return d
}

func TestExamples(t *testing.T) {
	d := fresh(t, 10)
	is(t, "Create a", d.Create("a"), api.OK)
	is(t, "Create a again", d.Create("a"), api.ErrExists)
	is(t, "Append 6", d.Append("a", make([]byte, 6)), api.OK)
	is(t, "Append 5", d.Append("a", make([]byte, 5)), api.ErrNoSpace)
	if d.Used() != 6 || d.Refused() != 1 {
		t.Error(d.Used(), d.Refused())
	}
	is(t, "Append b", d.Append("b", nil), api.ErrMissing)

	is(t, "Sync", d.Sync("a"), api.OK)
	is(t, "Append xyz", d.Append("a", []byte("xyz")), api.OK)
	sizes(t, d, "a", 9, 6)
	is(t, "Crash", d.Crash([]int{2}), api.OK)
	sizes(t, d, "a", 8, 8)
	is(t, "Append 1", d.Append("a", []byte("z")), api.OK)
	is(t, "Crash", d.Crash(nil), api.OK)
	sizes(t, d, "a", 8, 8)
	holds(t, d, "a", "\x00\x00\x00\x00\x00\x00xy")

	is(t, "Refuse", d.Refuse(1, 2), api.OK)
	is(t, "Create b", d.Create("b"), api.OK)
	is(t, "Create c", d.Create("c"), api.ErrNoSpace)
	is(t, "Append nothing", d.Append("a", nil), api.ErrNoSpace)
	is(t, "Create c again", d.Create("c"), api.OK)

	b, e := d.Read("a", 8, 5)
	if len(b) != 0 || e != api.OK {
		t.Error(b, e)
	}
	_, e = d.Read("a", 9, 0)
	is(t, "Read beyond", e, api.ErrArg)
	is(t, "Rename", d.Rename("a", "b"), api.OK)
	if l := d.List(); !slices.Equal(l, []string{"b", "c"}) {
		t.Error(l)
	}
	is(t, "Create nothing", d.Create(""), api.ErrArg)
}

// P5.1
func TestNew(t *testing.T) {
	for _, quota := range []int{-1, math.MinInt, api.MaxQuota + 1, math.MaxInt} {
		if d, e := New(quota); d != nil || e != api.ErrArg {
			t.Errorf("New(%d) = %v, %d", quota, d, e)
		}
	}
	for _, quota := range []int{0, 1, api.MaxQuota} {
		d := fresh(t, quota)
		if d.Quota() != quota || d.Used() != 0 || d.Refused() != 0 || len(d.List()) != 0 {
			t.Error(quota, d.Quota(), d.Used(), d.Refused(), d.List())
		}
	}
}

// P5.1
func TestSetQuota(t *testing.T) {
	d := with(t, 4, "abcd")
	for _, quota := range []int{-1, math.MinInt, api.MaxQuota + 1, math.MaxInt} {
		is(t, "SetQuota", d.SetQuota(quota), api.ErrArg)
		if d.Quota() != 4 {
			t.Error("changed by an error", d.Quota())
		}
	}
	for _, quota := range []int{0, api.MaxQuota, 3} {
		is(t, "SetQuota", d.SetQuota(quota), api.OK)
		if d.Quota() != quota || d.Used() != 4 {
			t.Error(quota, d.Quota(), d.Used())
		}
	}
	holds(t, d, "abcd", "abcd")
	is(t, "nothing, above the quota already", d.Append("abcd", nil), api.ErrNoSpace)
	is(t, "a file needs no bytes", d.Create("b"), api.OK)
	is(t, "SetQuota", d.SetQuota(4), api.OK)
	is(t, "nothing, just full", d.Append("abcd", nil), api.OK)
	is(t, "SetQuota", d.SetQuota(5), api.OK)
	is(t, "just fills it", d.Append("b", []byte("x")), api.OK)
	is(t, "one more", d.Append("b", []byte("x")), api.ErrNoSpace)
}

// P5.1: Used goes with all that gives and takes bytes.
func TestUsed(t *testing.T) {
	d := with(t, 100, "a", "bb", "ccc", "dddd")
	steps := []struct {
		what string
		do   func() api.Errno
		used int
	}{
		{"nothing", func() api.Errno { return api.OK }, 10},
		{"remove", func() api.Errno { return d.Remove("bb") }, 8},
		{"rename", func() api.Errno { return d.Rename("a", "z") }, 8},
		{"rename onto", func() api.Errno { return d.Rename("z", "dddd") }, 4},
		{"rename onto itself", func() api.Errno { return d.Rename("ccc", "ccc") }, 4},
		{"sync", func() api.Errno { return d.Sync("dddd") }, 4},
		{"crash", func() api.Errno { return d.Crash([]int{1}) }, 2},
		{"refused", func() api.Errno { d.Refuse(0, 1); d.Append("ccc", []byte("x")); return api.OK }, 2},
	}
	for _, s := range steps {
		is(t, s.what, s.do(), api.OK)
		if d.Used() != s.used {
			t.Errorf("%s: Used %d, want %d", s.what, d.Used(), s.used)
		}
	}
}

// P5.1, P5.2: the greatest quota can be filled to the last byte.
func TestGreatestQuota(t *testing.T) {
	d := with(t, api.MaxQuota, "a")
	b := make([]byte, api.MaxQuota)
	is(t, "one above", d.Append("a", b), api.ErrNoSpace)
	is(t, "just fills", d.Append("a", b[1:]), api.OK)
	if d.Used() != api.MaxQuota {
		t.Error(d.Used())
	}
	is(t, "one more", d.Append("a", b[:1]), api.ErrNoSpace)
	is(t, "nothing", d.Append("a", nil), api.OK)
}

// P5.2 to P5.5: every call that takes a name takes and refuses the same ones.
func TestNames(t *testing.T) {
	long := strings.Repeat("n", api.MaxName)
	for _, name := range []string{"a", long, "\x00", "\xff\xfe", "a/b", " ", "ä", "..", strings.Repeat("\x80", api.MaxName)} {
		d := with(t, 1000, name)
		is(t, "Sync", d.Sync(name), api.OK)
		holds(t, d, name, name)
		sizes(t, d, name, len(name), len(name))
		is(t, "Rename", d.Rename(name, "other"), api.OK)
		is(t, "Rename back", d.Rename("other", name), api.OK)
		if l := d.List(); !slices.Equal(l, []string{name}) {
			t.Errorf("%q", l)
		}
		is(t, "Remove", d.Remove(name), api.OK)
	}
	d := with(t, 10, "a")
	for _, name := range []string{"", long + "n", strings.Repeat("n", 1000)} {
		is(t, "Create", d.Create(name), api.ErrArg)
		is(t, "Append", d.Append(name, []byte("x")), api.ErrArg)
		is(t, "Sync", d.Sync(name), api.ErrArg)
		is(t, "Rename from", d.Rename(name, "a"), api.ErrArg)
		is(t, "Rename to", d.Rename("a", name), api.ErrArg)
		is(t, "Rename missing", d.Rename("missing", name), api.ErrArg)
		is(t, "Remove", d.Remove(name), api.ErrArg)
		_, e := d.Read(name, 0, 1)
		is(t, "Read", e, api.ErrArg)
		n, s, e := d.Size(name)
		is(t, "Size", e, api.ErrArg)
		if n != 0 || s != 0 {
			t.Error(n, s)
		}
	}
	if d.Refused() != 0 || !d.Same(with(t, 10, "a")) {
		t.Error("changed by an error")
	}
}

// P5.2 to P5.5
func TestMissing(t *testing.T) {
	d := with(t, 10, "a")
	is(t, "Append", d.Append("b", []byte("x")), api.ErrMissing)
	is(t, "Append too much", d.Append("b", make([]byte, 100)), api.ErrMissing)
	is(t, "Sync", d.Sync("b"), api.ErrMissing)
	is(t, "Rename", d.Rename("b", "a"), api.ErrMissing)
	is(t, "Rename onto itself", d.Rename("b", "b"), api.ErrMissing)
	is(t, "Remove", d.Remove("b"), api.ErrMissing)
	for _, at := range []int{-1, 0, 100} {
		b, e := d.Read("b", at, at)
		is(t, "Read", e, api.ErrMissing)
		if len(b) != 0 {
			t.Error(b)
		}
	}
	n, s, e := d.Size("b")
	if n != 0 || s != 0 || e != api.ErrMissing {
		t.Error(n, s, e)
	}
	if d.Refused() != 0 || !d.Same(with(t, 10, "a")) {
		t.Error("changed by an error")
	}
}

// P5.2
func TestCreate(t *testing.T) {
	d := fresh(t, 0)
	is(t, "Create", d.Create("a"), api.OK)
	sizes(t, d, "a", 0, 0)
	is(t, "nothing fits", d.Append("a", nil), api.OK)
	is(t, "one byte does not", d.Append("a", []byte("x")), api.ErrNoSpace)

	d = with(t, 10, "a")
	d.Sync("a")
	is(t, "Create again", d.Create("a"), api.ErrExists)
	sizes(t, d, "a", 1, 1)
	holds(t, d, "a", "a")
	d.Remove("a")
	is(t, "Create behind Remove", d.Create("a"), api.OK)
	sizes(t, d, "a", 0, 0)
}

// P5.2
func TestMaxFiles(t *testing.T) {
	d := fresh(t, 10)
	for i := range api.MaxFiles {
		is(t, "Create", d.Create(strconv.Itoa(i)), api.OK)
	}
	is(t, "one more", d.Create("more"), api.ErrNoSpace)
	is(t, "one that is there", d.Create("0"), api.ErrExists)
	if d.Refused() != 1 || len(d.List()) != api.MaxFiles {
		t.Error(d.Refused(), len(d.List()))
	}
	is(t, "Append", d.Append("0", []byte("x")), api.OK)
	is(t, "Rename", d.Rename("0", "more"), api.OK)
	is(t, "still full", d.Create("0"), api.ErrNoSpace)
	is(t, "Rename onto", d.Rename("1", "more"), api.OK)
	is(t, "room again", d.Create("0"), api.OK)
	is(t, "full again", d.Create("1"), api.ErrNoSpace)
	if d.Refused() != 3 || !slices.IsSorted(d.List()) {
		t.Error(d.Refused(), d.List())
	}
}

// P5.2: the quota is that of all files together.
func TestAppend(t *testing.T) {
	d := with(t, 10, "abc", "de")
	is(t, "one byte too many", d.Append("de", []byte("123456")), api.ErrNoSpace)
	holds(t, d, "de", "de")
	is(t, "just fills it", d.Append("de", []byte("12345")), api.OK)
	holds(t, d, "de", "de12345")
	sizes(t, d, "de", 7, 0)
	is(t, "one byte more", d.Append("abc", []byte("6")), api.ErrNoSpace)
	is(t, "nothing", d.Append("abc", []byte{}), api.OK)
	holds(t, d, "abc", "abc")
	if d.Used() != 10 || d.Refused() != 2 {
		t.Error(d.Used(), d.Refused())
	}
	d.Remove("de")
	is(t, "room again", d.Append("abc", []byte("1234567")), api.OK)
	holds(t, d, "abc", "abc1234567")
}

// P5.4
func TestSync(t *testing.T) {
	d := with(t, 100, "abc", "de")
	is(t, "Sync", d.Sync("abc"), api.OK)
	sizes(t, d, "abc", 3, 3)
	sizes(t, d, "de", 2, 0)
	d.Append("abc", []byte("x"))
	sizes(t, d, "abc", 4, 3)
	is(t, "Sync again", d.Sync("abc"), api.OK)
	sizes(t, d, "abc", 4, 4)
	is(t, "Sync twice", d.Sync("abc"), api.OK)
	sizes(t, d, "abc", 4, 4)
	holds(t, d, "abc", "abcx")
}

// P5.4: neither of these is a try, and a crash takes none of them back.
func TestRenameRemove(t *testing.T) {
	d := with(t, 100, "abc", "de")
	d.Sync("abc")
	d.Append("abc", []byte("xy"))
	d.Refuse(0, 9)
	is(t, "Rename", d.Rename("abc", "new"), api.OK)
	sizes(t, d, "new", 5, 3)
	holds(t, d, "new", "abcxy")
	is(t, "Rename onto itself", d.Rename("new", "new"), api.OK)
	sizes(t, d, "new", 5, 3)
	is(t, "Rename onto", d.Rename("new", "de"), api.OK)
	sizes(t, d, "de", 5, 3)
	holds(t, d, "de", "abcxy")
	if l := d.List(); !slices.Equal(l, []string{"de"}) {
		t.Error(l)
	}
	d.Refuse(0, 0)
	is(t, "Create", d.Create("empty"), api.OK)
	is(t, "Create", d.Create("gone"), api.OK)
	d.Append("gone", []byte("gone"))
	d.Sync("gone")
	is(t, "Remove", d.Remove("gone"), api.OK)
	is(t, "Remove again", d.Remove("gone"), api.ErrMissing)
	is(t, "Crash", d.Crash(nil), api.OK)
	if l := d.List(); !slices.Equal(l, []string{"de", "empty"}) {
		t.Error(l)
	}
	holds(t, d, "de", "abc")
	if d.Refused() != 0 {
		t.Error(d.Refused())
	}
}

// P5.5
func TestRead(t *testing.T) {
	d := with(t, 100, "abcd")
	d.Append("abcd", []byte("ef"))
	cases := []struct {
		at, n int
		want  string
		e     api.Errno
	}{
		{0, 6, "abcdef", api.OK}, {0, 0, "", api.OK}, {0, 1, "a", api.OK}, {0, 7, "abcdef", api.OK},
		{2, 3, "cde", api.OK}, {2, math.MaxInt, "cdef", api.OK}, {5, 1, "f", api.OK}, {5, 2, "f", api.OK},
		{6, 0, "", api.OK}, {6, 1, "", api.OK}, {6, math.MaxInt, "", api.OK},
		{7, 0, "", api.ErrArg}, {7, 1, "", api.ErrArg}, {math.MaxInt, 0, "", api.ErrArg}, {math.MaxInt, math.MaxInt, "", api.ErrArg},
		{-1, 0, "", api.ErrArg}, {-1, 2, "", api.ErrArg}, {math.MinInt, 1, "", api.ErrArg},
		{0, -1, "", api.ErrArg}, {6, -1, "", api.ErrArg}, {3, math.MinInt, "", api.ErrArg},
	}
	for _, c := range cases {
		if b, e := d.Read("abcd", c.at, c.n); string(b) != c.want || e != c.e {
			t.Errorf("Read(%d, %d) = %q, %d, want %q, %d", c.at, c.n, b, e, c.want, c.e)
		}
	}
}

// P5.5: the order is that of bytes, not of runes or of lengths.
func TestList(t *testing.T) {
	d := fresh(t, 0)
	want := []string{"\x00", "1", "10", "2", "A", "a", "a\x00", "aa", "b", "z", "ä", "\xff"}
	for i := range want {
		is(t, "Create", d.Create(want[(i*5)%len(want)]), api.OK)
	}
	for range 20 {
		if l := d.List(); !slices.Equal(l, want) {
			t.Fatalf("%q, want %q", l, want)
		}
	}
}

// P5.8: what lasts stays through any crashes, and the same calls answer the same.
func TestLasts(t *testing.T) {
	d, o := fresh(t, 1000), fresh(t, 1000)
	want := ""
	d.Create("a")
	o.Create("a")
	for i := range 50 {
		part := strconv.Itoa(i)
		for _, x := range []*Disk{d, o} {
			is(t, "Append", x.Append("a", []byte(part)), api.OK)
			is(t, "Sync", x.Sync("a"), api.OK)
			x.Append("a", []byte("tail"))
			x.Crash([]int{i%3 - 1, i})
		}
		want += part + "tail"[:max(i%3-1, 0)]
		holds(t, d, "a", want)
		sizes(t, d, "a", len(want), len(want))
		if !d.Same(o) || !bytes.Equal([]byte(want), mustRead(o, "a")) {
			t.Fatal("the same calls, and another disk")
		}
		is(t, "Crash", d.Crash([]int{-5}), api.OK)
		is(t, "Crash", o.Crash(nil), api.OK)
	}
}

func mustRead(d *Disk, name string) []byte {
	b, _ := d.Read(name, 0, math.MaxInt)
	return b
}
