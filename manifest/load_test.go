package manifest

import (
	"fmt"
	"slices"
	"strings"
	"testing"

	"moraine/api"
	"moraine/disk"
)

// P17.4: what CURRENT may hold.
func TestCurrent(t *testing.T) {
	x := newPair(t, 1<<20)
	x.current(0, api.ErrCurrent)
	x.load(64, 2, api.ErrCurrent)
	for text, number := range map[string]int{
		"MANIFEST-000001\n": 1, "MANIFEST-999999\n": 999999, "MANIFEST-1000000\n": 1000000, "MANIFEST-2147483647\n": api.MaxNumber,
	} {
		x.put("CURRENT", []byte(text))
		x.current(number, api.OK)
		x.load(64, 2, api.ErrManifest)
	}
	for _, text := range []string{
		"", "\n", "x", "MANIFEST-000001", "MANIFEST-000001\n\n", "MANIFEST-000001 \n", " MANIFEST-000001\n", "MANIFEST-000001\r\n", "MANIFEST-000001\nMANIFEST-000001\n",
		"MANIFEST-1\n", "MANIFEST-0000001\n", "MANIFEST-000000\n", "MANIFEST--00001\n", "MANIFEST-+00001\n", "MANIFEST-2147483648\n", "MANIFEST-9999999999999999999999\n", "MANIFEST-00000a\n", "MANIFEST-\n", "manifest-000001\n",
		"000001.log\n", "000001.tab\n", "000001.tmp\n", "CURRENT\n", "MANIFEST-000001\x00", "\x00MANIFEST-000001\n", strings.Repeat("MANIFEST-000001\n", 5000), string(make([]byte, 1<<16)),
	} {
		x.put("CURRENT", []byte(text))
		x.current(0, api.ErrCurrent)
		x.load(64, 2, api.ErrCurrent)
	}
	// What does not last counts as long as it is there.
	x.put("CURRENT", []byte("MANIFEST-000003"))
	x.both(func(d *disk.Disk) { d.Append("CURRENT", []byte("\n")) })
	x.current(3, api.OK)
	x.both(func(d *disk.Disk) { d.Crash(nil) })
	x.current(0, api.ErrCurrent)
	// A name beside it, and a file of another kind that has the text, do not count.
	x.both(func(d *disk.Disk) { d.Remove("CURRENT") })
	for _, name := range []string{"current", "CURRENT ", "000001.tmp"} {
		x.put(name, []byte("MANIFEST-000001\n"))
	}
	x.current(0, api.ErrCurrent)
}

// P17.4: levels from 1 to MaxLevels; a state is loaded into more levels than it was begun with, but not into fewer than it has files in.
func TestLoadLevels(t *testing.T) {
	x := begun(t, 64, wide())
	for levels := 1; levels <= api.MaxLevels; levels++ {
		if levels < 5 {
			x.load(64, levels, api.ErrManifest)
			continue
		}
		s := x.load(64, levels, api.OK)
		if len(s.Levels) != levels || !slices.EqualFunc(s.Levels[:5], wide().Levels, slices.Equal[[]api.File]) {
			t.Error(levels, brief(s))
		}
	}
	y := begun(t, 64, small())
	for levels := 1; levels <= api.MaxLevels; levels++ {
		if s := y.load(64, levels, api.OK); len(s.Levels) != levels {
			t.Error(levels, brief(s))
		}
	}
	empty := newPair(t, 1000)
	for _, levels := range append(wrongInts(), 0, api.MaxLevels+1, 100) {
		for _, block := range []int{64, 31} {
			x.load(block, levels, api.ErrArg)
			empty.load(block, levels, api.ErrArg) // ahead of ErrCurrent
		}
	}
	for _, block := range []int{31, 0, -1, api.MaxBlock + 1} {
		empty.load(block, 2, api.ErrArg)
	}
	empty.load(api.MinBlock, 1, api.ErrCurrent)
	empty.load(api.MaxBlock, api.MaxLevels, api.ErrCurrent)
}

// pointed is a pair whose CURRENT names a manifest that has these bytes.
func pointed(t *testing.T, b []byte) *pair {
	t.Helper()
	x := newPair(t, 1<<26)
	x.put("CURRENT", []byte("MANIFEST-000006\n"))
	x.put("MANIFEST-000006", b)
	return x
}

// P17.4: no manifest, one without a record, and ones whose records are edits or not, fit or not.
func TestLoadRecords(t *testing.T) {
	x := begun(t, 64, wide())
	x.both(func(d *disk.Disk) { d.Remove("MANIFEST-000015") })
	x.put("MANIFEST-000014", []byte(nil))
	x.load(64, 5, api.ErrManifest)
	x.current(15, api.OK)
	bytesOf := plainEditBytes
	a, b, c := bytesOf(api.Edit{Log: 3, Next: 9, Come: []api.Added{come(0, f(5, "a", "b"))}}), bytesOf(api.Edit{Seq: 8, Gone: []api.Place{gone(0, 5)}}), bytesOf(api.Edit{Log: 2, Come: []api.Added{come(1, f(6, "a", "b"))}})
	for _, y := range []struct {
		want    api.Errno
		records [][]byte
	}{
		{api.ErrManifest, nil}, {api.OK, [][]byte{nil}}, {api.OK, [][]byte{nil, nil}}, {api.OK, [][]byte{a}}, {api.OK, [][]byte{a, b}}, {api.OK, [][]byte{a, b, c}}, {api.OK, [][]byte{c, a, nil, b}}, {api.OK, [][]byte{a, b, a, b}},
		{api.ErrManifest, [][]byte{b}}, {api.ErrManifest, [][]byte{b, a}}, {api.ErrManifest, [][]byte{a, a}}, {api.ErrManifest, [][]byte{a, b, b}}, {api.ErrManifest, [][]byte{a, b, c, c}},
		{api.ErrManifest, [][]byte{[]byte("x")}}, {api.ErrManifest, [][]byte{a, {1, 0}}}, {api.ErrManifest, [][]byte{a, {1, 128, 0}}}, {api.ErrManifest, [][]byte{{6}, a}}, {api.ErrManifest, [][]byte{a, a[:len(a)-1], b}}, {api.ErrManifest, [][]byte{slices.Concat(b, a)}}, {api.ErrManifest, [][]byte{slices.Concat(a, []byte{0})}},
		{api.OK, [][]byte{slices.Concat(bytesOf(api.Edit{Log: 3}), bytesOf(api.Edit{Seq: 4}))}},
		{api.ErrManifest, [][]byte{bytesOf(api.Edit{Come: []api.Added{come(2, f(5, "a", "b"))}})}},
		{api.ErrManifest, [][]byte{bytesOf(api.Edit{Come: []api.Added{come(1, f(5, "a", "c")), come(1, f(6, "b", "d"))}})}},
		{api.ErrManifest, [][]byte{bytesOf(api.Edit{Come: []api.Added{come(7, f(5, "a", "c"))}})}},
		{api.ErrManifest, [][]byte{bytesOf(api.Edit{Come: []api.Added{come(0, f(5, "c", "c"))}})}},
		{api.ErrManifest, [][]byte{bytesOf(api.Edit{Log: api.MaxNumber + 1})}},
	} {
		for _, block := range []int{32, 64, 4096} {
			x := pointed(t, plainFile(block, y.records...))
			x.current(6, api.OK)
			if s := x.load(block, 2, y.want); y.want == api.OK && s.Number != 6 {
				t.Error(brief(s))
			}
		}
	}
	s := pointed(t, plainFile(64, a, b, c)).load(64, 2, api.OK)
	if !same(s, State{Levels: api.Levels{nil, {f(6, "a", "b")}}, Log: 2, Next: 9, Seq: 8, Number: 6}) {
		t.Error(s)
	}
}

// P17.4: a record of the greatest length is read, and one that is longer is bent.
func TestLoadGreatRecord(t *testing.T) {
	pointed(t, plainFile(4096, plainEditBytes(ofBytes(t, api.MaxRecord)))).load(4096, 1, api.OK)
	pointed(t, plainFile(4096, plainEditBytes(ofBytes(t, api.MaxRecord+1)))).load(4096, 1, api.ErrManifest)
}

// P17.4: a manifest that ends anywhere is Torn, which is passed over, as long as a record is whole.
func TestLoadTorn(t *testing.T) {
	for _, block := range []int{32, 64, 4096} {
		first := plainFile(block, plainEditBytes(plainWhole(wide())))
		edits := []api.Edit{{Log: 40, Come: []api.Added{come(1, f(60, "a", "b"))}}, {Seq: 1 << 50, Gone: []api.Place{gone(1, 60), gone(0, 4)}}, {}}
		file, ends, states := first, []int{len(first)}, []State{wide()}
		for _, e := range edits {
			file = append(file, plainAdd(block, len(file), plainEditBytes(e))...)
			s, _ := plainBehind(states[len(states)-1], e)
			ends, states = append(ends, len(file)), append(states, s)
		}
		for n := range len(file) + 1 {
			x := pointed(t, file[:n])
			whole, _ := slices.BinarySearch(ends, n+1)
			if whole == 0 {
				x.load(block, 5, api.ErrManifest)
				continue
			}
			want := states[whole-1]
			want.Number = 6
			if got := x.load(block, 5, api.OK); !same(got, want) {
				t.Errorf("%d bytes: %s, want %s", n, brief(got), brief(want))
			}
		}
	}
}

// P17.4: a manifest that is Bent anywhere is none, even behind records that are whole.
func TestLoadBent(t *testing.T) {
	file := plainFile(64, plainEditBytes(plainWhole(wide())), plainEditBytes(api.Edit{Log: 50}), plainEditBytes(api.Edit{Log: 51}))
	pointed(t, file).load(64, 5, api.OK)
	for i := range file {
		for _, bit := range []byte{1, 4, 128} {
			b := slices.Clone(file)
			b[i] ^= bit
			x := pointed(t, b)
			_, want := plainLoad(x.p, 64, 5)
			got := x.load(64, 5, want)
			// A length that reaches beyond the file's end is Torn; all else is Bent.
			if records, bent := plainRead(64, b); bent != (want == api.ErrManifest) && len(records) > 0 {
				t.Errorf("byte %d: %s", i, brief(got))
			}
		}
	}
	for _, tail := range []string{"\x00\x00\x00\x00\x00\x00\x00", "xxxxxxx", "\x00\x00\x00\x00\x00\x00\x01", "\x00\x00\x00\x00\xff\xff\x01"} {
		x := pointed(t, append(plainFile(4096, plainEditBytes(api.Edit{Log: 50})), tail...))
		x.load(4096, 5, api.ErrManifest)
	}
	// What was written with one block is mostly none with another.
	x := begun(t, 64, wide())
	x.load(32, 5, api.ErrManifest)
}

// P17.5: behind Begin and Appends, whatever a crash keeps of what was put on and not synced.
func TestBackBehindCrashes(t *testing.T) {
	for _, block := range []int{32, 64, 4096} {
		x := begun(t, block, wide())
		x.append(api.Edit{Log: 40, Come: []api.Added{come(1, f(60, "a", "b"))}}, api.OK)
		x.both(func(d *disk.Disk) { d.Refuse(0, 1) })
		x.append(api.Edit{Log: 41}, api.ErrNoSpace)
		x.append(api.Edit{Seq: 1 << 50}, api.OK)
		last := api.Edit{Log: 70, Next: 71, Seq: 72, Gone: []api.Place{gone(1, 60)}, Come: []api.Added{come(3, f(61, "a", "b"))}}
		tail := plainAdd(block, x.plain.size, plainEditBytes(last))
		changed, _ := plainBehind(x.plain.state, last)
		for kept := -1; kept <= len(tail)+1; kept++ {
			d := x.d.Clone()
			d.Append("MANIFEST-000015", tail)
			for _, name := range []string{"000099.log", "000016.tmp", "MANIFEST-000016"} {
				d.Create(name)
				d.Append(name, []byte("not synced"))
			}
			d.Crash([]int{kept})
			want := x.m.State()
			if kept >= len(tail) {
				want = changed
			}
			for range 2 {
				if got, e := Load(d, block, 5); e != api.OK || !same(got, want) {
					t.Errorf("%d of %d kept: %s, error %d", kept, len(tail), brief(got), int(e))
				}
				d.Crash(nil)
			}
		}
	}
}

// P17.5: a crash behind a Begin that was refused, with what it left, keeps the manifest that was there.
func TestBackBehindRefusedBegin(t *testing.T) {
	for after := range 4 {
		for _, keep := range [][]int{nil, {0}, {1}, {5, 0, 3}, {1 << 40}} {
			x := begun(t, 64, wide())
			x.append(api.Edit{Log: 40}, api.OK)
			x.both(func(d *disk.Disk) { d.Refuse(after, 1) })
			s := small()
			s.Number = 90
			x.begin(32, s, api.ErrNoSpace)
			x.both(func(d *disk.Disk) { d.Crash(keep) })
			x.back()
			x.append(api.Edit{Log: 41}, api.OK)
			x.back()
			s.Number = 91
			x.begin(32, s, api.OK)
			x.both(func(d *disk.Disk) { d.Crash(keep) })
			x.back()
		}
	}
}

// P17.5: a way of many edits, in each block and at each place of a block.
func TestBackAllTheWay(t *testing.T) {
	for block := api.MinBlock; block < api.MinBlock+20; block++ {
		x := begun(t, block, small())
		for i := range 40 {
			e := api.Edit{Come: []api.Added{come(0, f(i+1, strings.Repeat("a", i%9+1), "b"))}}
			if i > 2 {
				e.Gone = []api.Place{gone(0, i-2)}
			}
			x.append(e, api.OK)
			x.back()
		}
		if got := fmt.Sprint(len(x.m.State().Levels[0])); got != "3" {
			t.Error(got)
		}
	}
}
