package manifest

import (
	"fmt"
	"math"
	"strings"
	"testing"

	"moraine/api"
	"moraine/disk"
)

// The chapter's first and second example.
func TestFirstExamples(t *testing.T) {
	d := fresh(t, 1000)
	m, e := Begin(d, 64, small())
	if e != api.OK || m == nil {
		t.Fatal(m, int(e))
	}
	if l := d.List(); len(l) != 2 || l[0] != "CURRENT" || l[1] != "MANIFEST-000001" {
		t.Error(l)
	}
	if b, _ := d.Read("CURRENT", 0, 99); string(b) != "MANIFEST-000001\n" {
		t.Errorf("%q", b)
	}
	if b, _ := d.Read("MANIFEST-000001", 0, 99); len(b) != 11 || string(b[4:]) != "\x04\x00\x01\x01\x02\x02\x03" {
		t.Errorf("% x", b)
	}
	if s, e := Load(d, 64, 2); e != api.OK || !same(s, small()) {
		t.Error(s, int(e))
	}
	if size, whole := m.Size(); size != 11 || whole != 11 {
		t.Error(size, whole)
	}
	if e := m.Append(d, api.Edit{Gone: []api.Place{gone(0, 5)}}); e != api.ErrVersion {
		t.Error(int(e))
	}
	if _, e := Load(fresh(t, 1000), 64, 2); e != api.ErrCurrent {
		t.Error(int(e))
	}
	if m, e := Begin(d, 64, small()); e != api.ErrExists || m != nil {
		t.Error(m, int(e))
	}
}

// The chapter's third example.
func TestThirdExample(t *testing.T) {
	d := fresh(t, 1000)
	d.Refuse(2, 1)
	if m, e := Begin(d, 64, small()); e != api.ErrNoSpace || m != nil {
		t.Error(m, int(e))
	}
	if l := d.List(); len(l) != 1 || l[0] != "MANIFEST-000001" {
		t.Error(l)
	}
}

// Rule 1, P17.1, P17.4: no disk comes ahead of all else.
func TestNoDisk(t *testing.T) {
	m, _ := Begin(fresh(t, 1000), 64, small())
	for _, d := range []*disk.Disk{nil, {}} {
		for _, block := range []int{64, 31, -1} {
			for _, s := range []State{small(), {}, {Levels: api.Levels{ofLevel(ofBytes(t, api.MaxRecord+1))}, Number: 1}} {
				if m, e := Begin(d, block, s); m != nil || e != api.ErrNil {
					t.Error(m, int(e))
				}
			}
			for _, levels := range []int{2, 0, 8} {
				if s, e := Load(d, block, levels); !isZero(s) || e != api.ErrNil {
					t.Error(s, int(e))
				}
			}
		}
		if n, e := Current(d); n != 0 || e != api.ErrNil {
			t.Error(n, int(e))
		}
		for _, e := range []api.Edit{{}, {Log: 7}, {Log: -1}, {Gone: []api.Place{gone(0, 5)}}} {
			if e := m.Append(d, e); e != api.ErrNil {
				t.Error(int(e))
			}
		}
	}
	if size, whole := m.Size(); !same(m.State(), small()) || size != 11 || whole != 11 {
		t.Error(m.State(), size, whole)
	}
}

// Rule 1, P17.2: a manifest that is nil, or that no call gave.
func TestNoManifest(t *testing.T) {
	for _, m := range []*Manifest{nil, {}, new(Manifest)} {
		for range 2 {
			x := newPair(t, 1000)
			for _, d := range []*disk.Disk{x.d, nil, {}} {
				for _, e := range []api.Edit{{}, {Log: 7}, {Log: -1}, {Gone: []api.Place{gone(0, 5)}}} {
					if e := m.Append(d, e); e != api.ErrNil {
						t.Error(int(e))
					}
				}
			}
			x.look("no manifest")
			if size, whole := m.Size(); !isZero(m.State()) || size != 0 || whole != 0 {
				t.Error(m.State(), size, whole)
			}
		}
	}
}

// ofLevel tells the files that an edit brings, as one level.
func ofLevel(e api.Edit) []api.File {
	var out []api.File
	for _, x := range e.Come {
		out = append(out, x.File)
	}
	return out
}

// P17.1: blocks that are a journal's, and such that are not.
func TestBeginBlocks(t *testing.T) {
	for _, block := range []int{api.MinBlock, api.MinBlock + 1, 37, 64, 4096, api.MaxBlock - 1, api.MaxBlock} {
		for _, s := range []State{small(), wide()} {
			x := begun(t, block, s)
			x.back()
			x.append(api.Edit{Log: 9, Come: []api.Added{come(0, f(50, "k", "l"))}}, api.OK)
			x.append(api.Edit{Seq: 1 << 50}, api.OK)
			x.back()
		}
	}
	for _, block := range append(wrongInts(), 0, 1, api.MinBlock-1, api.MaxBlock+1) {
		x := newPair(t, 1000)
		x.begin(block, small(), api.ErrArg)
		x.begin(block, State{}, api.ErrArg)
		x.load(block, 2, api.ErrArg)
	}
}

// P17.1: Numbers of manifests, and the names that follow of them.
func TestBeginNumbers(t *testing.T) {
	for number, names := range map[int][2]string{
		1:                 {"MANIFEST-000001", "000001.tmp"},
		999999:            {"MANIFEST-999999", "999999.tmp"},
		1234567:           {"MANIFEST-1234567", "1234567.tmp"},
		api.MaxNumber - 1: {"MANIFEST-2147483646", "2147483646.tmp"},
		api.MaxNumber:     {"MANIFEST-2147483647", "2147483647.tmp"},
	} {
		s := small()
		s.Number = number
		x := begun(t, 64, s)
		x.back()
		if b, e := x.d.Read("CURRENT", 0, 99); string(b) != names[0]+"\n" || e != api.OK {
			t.Errorf("%d: %q", number, b)
		}
		if size, lasts, e := x.d.Size(names[0]); size != 11 || lasts != 11 || e != api.OK {
			t.Error(number, size, lasts, int(e))
		}
		x = newPair(t, 1000)
		x.d.Refuse(3, 1)
		x.p.Refuse(3, 1)
		x.begin(64, s, api.ErrNoSpace)
		if _, _, e := x.d.Size(names[1]); e != api.OK {
			t.Error(number, x.d.List())
		}
	}
	for _, number := range append(wrongInts(), 0, api.MaxNumber+1) {
		x := newPair(t, 1000)
		s := small()
		s.Number = number
		x.begin(64, s, api.ErrArg)
		s.Levels, s.Log = nil, -1
		x.begin(64, s, api.ErrArg)
		x.current(0, api.ErrCurrent)
	}
}

// P17.1: levels that are a version's, and such that are not.
func TestBeginLevels(t *testing.T) {
	long := func(n int) string { return strings.Repeat("q", n) }
	for _, c := range []struct {
		want   api.Errno
		levels api.Levels
	}{
		{api.ErrArg, nil}, {api.ErrArg, api.Levels{}}, {api.OK, make(api.Levels, 1)}, {api.OK, api.Levels{{}, {}}},
		{api.OK, make(api.Levels, api.MaxLevels)}, {api.ErrArg, make(api.Levels, api.MaxLevels+1)}, {api.ErrArg, make(api.Levels, 100)},
		{api.OK, api.Levels{{f(3, "a", "c"), f(5, "b", "d")}, {f(2, "a", "b"), f(4, "b", "c")}}},
		{api.ErrArg, api.Levels{{f(5, "a", "c"), f(3, "b", "d")}}},
		{api.ErrArg, api.Levels{nil, {f(3, "a", "c"), f(5, "b", "d")}}},
		{api.ErrArg, api.Levels{nil, {f(5, "c", "d"), f(3, "a", "b")}}},
		{api.ErrArg, api.Levels{{f(3, "a", "c"), f(3, "b", "d")}}},
		{api.ErrArg, api.Levels{{f(3, "a", "c")}, {f(3, "a", "c")}}},
		{api.ErrArg, api.Levels{{f(0, "a", "c")}}}, {api.ErrArg, api.Levels{{f(-1, "a", "c")}}},
		{api.OK, api.Levels{{f(api.MaxNumber, "a", "c")}}}, {api.ErrArg, api.Levels{{f(api.MaxNumber+1, "a", "c")}}},
		{api.ErrArg, api.Levels{{f(1, "", "c")}}}, {api.ErrArg, api.Levels{{f(1, "c", "c")}}},
		{api.OK, api.Levels{{f(1, long(api.MaxKey), long(api.MaxKey+1))}}}, {api.ErrArg, api.Levels{{f(1, long(api.MaxKey+1), "r")}}}, {api.ErrArg, api.Levels{{f(1, "c", long(api.MaxKey+2))}}},
		{api.ErrArg, api.Levels{{{Number: 1, Size: 0, Least: "a", Limit: "b", Low: 1, High: 1}}}},
		{api.OK, api.Levels{{{Number: 1, Size: api.MaxQuota, Least: "a", Limit: "b", Low: 1, High: api.MaxSeq}}}},
		{api.ErrArg, api.Levels{{{Number: 1, Size: api.MaxQuota + 1, Least: "a", Limit: "b", Low: 1, High: 1}}}},
		{api.ErrArg, api.Levels{{{Number: 1, Size: 1, Least: "a", Limit: "b", Low: 0, High: 1}}}},
		{api.ErrArg, api.Levels{{{Number: 1, Size: 1, Least: "a", Limit: "b", Low: 2, High: 1}}}},
		{api.ErrArg, api.Levels{{{Number: 1, Size: 1, Least: "a", Limit: "b", Low: 2, High: api.MaxSeq + 1}}}},
		{api.OK, api.Levels{nil, nil, nil, nil, nil, nil, {f(9, "a", "b"), f(3, "b", "d"), f(5, "d", "e")}}},
	} {
		x := newPair(t, 100000)
		s := small()
		s.Levels = c.levels
		x.begin(64, s, c.want)
		if c.want == api.OK {
			x.back()
		}
	}
}

// P17.1: Log, Next and Seq that may be in an edit, 0 too, and such that may not.
func TestBeginSaid(t *testing.T) {
	numbers := map[int]bool{0: true, 1: true, 300: true, api.MaxNumber: true, api.MaxNumber + 1: false}
	for _, v := range wrongInts() {
		numbers[v] = false
	}
	errno := map[bool]api.Errno{true: api.OK, false: api.ErrArg}
	try := func(s State, ok bool) {
		t.Helper()
		x := newPair(t, 1000)
		x.begin(64, s, errno[ok])
		if ok {
			x.back()
			if !same(x.m.State(), s) {
				t.Errorf("%s became %s", brief(s), brief(x.m.State()))
			}
		}
	}
	for v, ok := range numbers {
		s := small()
		s.Log = v
		try(s, ok)
		s = small()
		s.Next = v
		try(s, ok)
		s.Log, s.Next = v, 0
		try(s, ok)
	}
	for v, ok := range map[uint64]bool{0: true, 1: true, 1 << 32: true, api.MaxSeq: true, api.MaxSeq + 1: false, 1 << 63: false, math.MaxUint64: false} {
		s := small()
		s.Seq = v
		try(s, ok)
		s.Log, s.Next = 0, 0
		try(s, ok)
	}
	// A state that says nothing is a record without bytes.
	x := begun(t, 64, State{Levels: make(api.Levels, 3), Number: 7})
	if size, whole := x.m.Size(); size != 7 || whole != 7 {
		t.Error(size, whole)
	}
	x.back()
}

// P17.1: a record of just MaxRecord bytes, and of one more.
func TestBeginBig(t *testing.T) {
	for _, block := range []int{api.MinBlock, 4096, api.MaxBlock} {
		for n, want := range map[int]api.Errno{api.MaxRecord - 1: api.OK, api.MaxRecord: api.OK, api.MaxRecord + 1: api.ErrBig, api.MaxRecord + 2: api.ErrBig, 2*api.MaxRecord + 7: api.ErrBig} {
			s := State{Levels: api.Levels{ofLevel(ofBytes(t, n)), nil}, Number: 1}
			x := newPair(t, 1<<26)
			x.begin(block, s, want)
			if want == api.OK {
				x.back()
			} else if len(x.d.List()) != 0 {
				t.Error(x.d.List())
			}
		}
	}
}

// P17.1: the order of errors; what they refuse is no try of the disk.
func TestBeginOrder(t *testing.T) {
	big := State{Levels: api.Levels{ofLevel(ofBytes(t, api.MaxRecord+1))}, Number: 1}
	x := newPair(t, 10)
	x.both(func(d *disk.Disk) {
		d.Create("MANIFEST-000001")
		d.Refuse(0, 2)
	})
	x.begin(64, big, api.ErrBig)
	x.begin(31, big, api.ErrArg)
	for _, change := range []func(s *State){
		func(s *State) { s.Number = 0 },
		func(s *State) { s.Log = -1 },
		func(s *State) { s.Next = api.MaxNumber + 1 },
		func(s *State) { s.Seq = api.MaxSeq + 1 },
		func(s *State) { s.Levels = append(api.Levels{nil, {f(1, "a", "c"), f(2, "b", "d")}}, s.Levels...) },
	} {
		s := big
		change(&s)
		x.begin(64, s, api.ErrArg)
	}
	// A file of that name that is there is no try either: the plan stays for the next Number.
	x.begin(64, small(), api.ErrExists)
	s := small()
	s.Number = 2
	x.begin(64, s, api.ErrNoSpace)
	x.begin(64, s, api.ErrNoSpace)
	x.begin(64, s, api.ErrNoSpace) // the quota has no room
	x.begin(64, s, api.ErrExists)
}

// P17.1: Begin is refused at each of its tries by plan; what was done ahead stays, and CURRENT is as it was.
func TestBeginRefused(t *testing.T) {
	record := string(plainAdd(64, 0, plainEditBytes(plainWhole(wide()))))
	size := len(record)
	wants := []string{
		"",
		"MANIFEST-000015 0 0; ",
		fmt.Sprintf("MANIFEST-000015 %d %d; ", size, size),
		fmt.Sprintf("000015.tmp 0 0; MANIFEST-000015 %d %d; ", size, size),
		fmt.Sprintf("CURRENT 16 16; MANIFEST-000015 %d %d; ", size, size),
	}
	for after, want := range wants {
		x := newPair(t, 10000)
		x.both(func(d *disk.Disk) { d.Refuse(after, 1) })
		if after < 4 {
			x.begin(64, wide(), api.ErrNoSpace)
		} else {
			x.begin(64, wide(), api.OK)
		}
		got := ""
		for _, name := range x.d.List() {
			size, lasts, _ := x.d.Size(name)
			got += fmt.Sprintf("%s %d %d; ", name, size, lasts)
		}
		if got != want {
			t.Errorf("%d tries: %s, want %s", after, got, want)
		}

		// The same with a manifest that goes on behind the refusal.
		x = begun(t, 64, small())
		x.both(func(d *disk.Disk) { d.Refuse(after, 1) })
		if after == 4 {
			x.begin(64, wide(), api.OK)
			x.back()
			continue
		}
		x.begin(64, wide(), api.ErrNoSpace)
		x.current(1, api.OK)
		x.back()
		x.append(api.Edit{Seq: 5}, api.OK)
		x.back()
		x.both(func(d *disk.Disk) { d.Crash([]int{3}) })
		x.back()
		// Once more with that Number: what was left is in the way; with another one it goes well.
		if after > 0 {
			x.begin(64, wide(), api.ErrExists)
		}
		s := wide()
		s.Number = 16
		x.begin(64, s, api.OK)
		x.back()
	}
}

// P17.1: the quota, and the greatest count of files, refuse too.
func TestBeginNoRoom(t *testing.T) {
	for quota := range 11 + 16 {
		x := newPair(t, quota)
		x.begin(64, small(), api.ErrNoSpace)
		if names := x.d.List(); quota < 11 && len(names) != 1 || quota >= 11 && len(names) != 2 {
			t.Error(quota, names)
		}
		x.load(64, 2, api.ErrCurrent)
	}
	x := newPair(t, 11+16)
	x.begin(64, small(), api.OK)
	x.back()
	for spare := range 3 {
		x := newPair(t, 1000)
		x.both(func(d *disk.Disk) {
			for i := range api.MaxFiles - spare {
				d.Create(fmt.Sprint(i))
			}
		})
		want := api.ErrNoSpace
		if spare == 2 {
			want = api.OK
		}
		x.begin(64, small(), want)
		if got := len(x.d.List()); got != api.MaxFiles {
			t.Error(spare, got)
		}
	}
}

// P17.1: a file that has one of the names already.
func TestBeginThere(t *testing.T) {
	x := newPair(t, 1000)
	x.put("MANIFEST-000001", []byte("old"))
	x.begin(64, small(), api.ErrExists)
	if b, _ := x.d.Read("MANIFEST-000001", 0, 99); string(b) != "old" || len(x.d.List()) != 1 {
		t.Error(files(x.d))
	}
	x = newPair(t, 1000)
	x.put("000001.tmp", []byte("old"))
	x.begin(64, small(), api.ErrExists)
	if b, _ := x.d.Read("000001.tmp", 0, 99); string(b) != "old" || len(x.d.List()) != 2 {
		t.Error(files(x.d))
	}
	x.load(64, 2, api.ErrCurrent)
	// A temporary file of another Number, and other files, are left alone.
	x = newPair(t, 1000)
	x.put("000002.tmp", []byte("old"))
	x.put("000001.tab", []byte("old"))
	x.put("CURRENT", []byte("no name"))
	x.begin(64, small(), api.OK)
	x.back()
	if len(x.d.List()) != 4 {
		t.Error(files(x.d))
	}
}

// P17.1: another manifest takes CURRENT over; the one ahead of it stays as it was, and can be put on.
func TestBeginAnother(t *testing.T) {
	x := begun(t, 64, small())
	x.append(api.Edit{Log: 5, Come: []api.Added{come(1, f(9, "a", "b"))}}, api.OK)
	old := *x
	x.begin(128, wide(), api.OK)
	x.back()
	x.append(api.Edit{Gone: []api.Place{gone(4, 1)}}, api.OK)
	x.back()
	old.append(api.Edit{Seq: 77}, api.OK)
	if s := old.load(128, 5, api.OK); s.Number != 15 {
		t.Error(s)
	}
	x.append(api.Edit{Seq: 78}, api.OK)
	x.back()
	old.put("CURRENT", []byte("MANIFEST-000001\n"))
	old.back()
}
