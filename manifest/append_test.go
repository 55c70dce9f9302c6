package manifest

import (
	"math"
	"testing"

	"moraine/api"
	"moraine/disk"
)

// P17.2, P17.3: what an edit makes of a state, by its own words.
func TestAppend(t *testing.T) {
	x := begun(t, 64, small())
	x.append(api.Edit{Seq: 2, Come: []api.Added{come(1, f(9, "a", "b"))}}, api.OK)
	want := State{Levels: api.Levels{nil, {f(9, "a", "b")}}, Log: 2, Next: 3, Seq: 2, Number: 1}
	if !same(x.m.State(), want) {
		t.Error(x.m.State())
	}
	// A piece has seven bytes ahead of the record: 03 02, and 05 01 09 0a 01 61 01 62 01 01.
	if size, whole := x.m.Size(); size != 11+7+12 || whole != 11 {
		t.Error(size, whole)
	}
	x.append(api.Edit{Log: 4, Next: 12, Gone: []api.Place{gone(1, 9)}, Come: []api.Added{come(0, f(11, "a", "b")), come(0, f(10, "a", "b"))}}, api.OK)
	want = State{Levels: api.Levels{{f(10, "a", "b"), f(11, "a", "b")}, nil}, Log: 4, Next: 12, Seq: 2, Number: 1}
	if !same(x.m.State(), want) {
		t.Error(x.m.State())
	}
	x.back()
	if size, lasts, e := x.d.Size("MANIFEST-000001"); size != lasts || e != api.OK {
		t.Error(size, lasts, int(e))
	}
}

// P17.2: what an edit does not say stays; what it says counts, be it less than what was there.
func TestAppendSaid(t *testing.T) {
	for _, log := range []int{0, 1, 13, 14, api.MaxNumber} {
		for _, next := range []int{0, 1, 300, 301, api.MaxNumber} {
			for _, seq := range []uint64{0, 1, 1 << 40, 1<<40 + 1, api.MaxSeq} {
				x := begun(t, 64, wide())
				x.append(api.Edit{Log: log, Next: next, Seq: seq}, api.OK)
				got, want := x.m.State(), wide()
				if log != 0 {
					want.Log = log
				}
				if next != 0 {
					want.Next = next
				}
				if seq != 0 {
					want.Seq = seq
				}
				if !same(got, want) {
					t.Errorf("%d, %d, %d: %s", log, next, seq, brief(got))
				}
				x.back()
				x.append(api.Edit{}, api.OK)
				if !same(x.m.State(), want) {
					t.Errorf("behind an edit of nothing: %s", brief(x.m.State()))
				}
				x.back()
			}
		}
	}
}

// wrongEdits are edits that are not valid.
func wrongEdits() []api.Edit {
	out := []api.Edit{
		{Log: api.MaxNumber + 1}, {Next: api.MaxNumber + 1}, {Seq: api.MaxSeq + 1}, {Seq: math.MaxUint64},
		{Gone: []api.Place{gone(0, 4), gone(0, 4)}}, {Gone: []api.Place{gone(-1, 4)}}, {Gone: []api.Place{gone(api.MaxLevels, 4)}},
		{Gone: []api.Place{gone(0, 0)}}, {Gone: []api.Place{gone(0, api.MaxNumber+1)}},
		{Come: []api.Added{come(api.MaxLevels, f(50, "a", "b"))}}, {Come: []api.Added{come(-1, f(50, "a", "b"))}},
		{Come: []api.Added{come(0, f(0, "a", "b"))}}, {Come: []api.Added{come(0, f(50, "b", "b"))}}, {Come: []api.Added{come(0, f(50, "", "b"))}},
		{Come: []api.Added{come(0, f(50, "a", "b")), come(1, f(50, "c", "d"))}},
		{Come: []api.Added{come(0, api.File{})}},
	}
	for _, v := range wrongInts() {
		out = append(out, api.Edit{Log: v}, api.Edit{Next: v}, api.Edit{Gone: []api.Place{gone(v, 4)}}, api.Edit{Come: []api.Added{come(v, f(50, "a", "b"))}})
	}
	return out
}

// unfitEdits are edits that are valid, but do not fit wide.
func unfitEdits() []api.Edit {
	return []api.Edit{
		{Gone: []api.Place{gone(0, 5)}}, {Gone: []api.Place{gone(1, 4)}}, {Gone: []api.Place{gone(6, 1)}}, {Gone: []api.Place{gone(0, 4), gone(2, 4)}},
		{Log: 20, Seq: 9, Gone: []api.Place{gone(0, 50)}, Come: []api.Added{come(0, f(50, "a", "b"))}},
		{Come: []api.Added{come(0, f(4, "a", "b"))}}, {Come: []api.Added{come(3, f(4, "a", "b"))}},
		{Come: []api.Added{come(2, f(50, "c", "d"))}}, {Come: []api.Added{come(4, f(50, "z", "zz"))}}, {Come: []api.Added{come(1, f(50, "a", "c")), come(1, f(51, "b", "d"))}},
		{Come: []api.Added{come(5, f(50, "a", "b"))}}, {Come: []api.Added{come(6, f(50, "a", "b"))}},
	}
}

// P17.2: edits that are not valid, that do not fit, that are too big; nothing has changed behind them, on the disk neither.
func TestAppendWrong(t *testing.T) {
	x := begun(t, 64, wide())
	big := ofBytes(t, api.MaxRecord+1)
	unfit := big
	unfit.Gone = []api.Place{gone(3, 9)}
	notValid := unfit
	notValid.Log = -1
	for _, planned := range []bool{false, true} {
		if planned { // what is wrong is told ahead of what the disk says, and is no try
			x.both(func(d *disk.Disk) { d.Refuse(0, 3) })
		}
		for _, e := range wrongEdits() {
			x.append(e, api.ErrArg)
		}
		for _, e := range unfitEdits() {
			x.append(e, api.ErrVersion)
		}
		x.append(big, api.ErrBig)
		x.append(unfit, api.ErrVersion)
		x.append(notValid, api.ErrArg)
	}
	if !same(x.m.State(), wide()) {
		t.Error(brief(x.m.State()))
	}
	for range 3 {
		x.append(api.Edit{Log: 99}, api.ErrNoSpace)
	}
	x.back()
	x.append(api.Edit{Log: 99}, api.OK)
	x.back()
}

// P17.2: an edit of just MaxRecord bytes, and of one more.
func TestAppendBig(t *testing.T) {
	for _, block := range []int{api.MinBlock, 4096, api.MaxBlock} {
		for n, want := range map[int]api.Errno{api.MaxRecord - 1: api.OK, api.MaxRecord: api.OK, api.MaxRecord + 1: api.ErrBig, 2 * api.MaxRecord: api.ErrBig} {
			x := begun(t, block, wide())
			x.append(ofBytes(t, n), want)
			x.back()
			x.append(api.Edit{Seq: 3, Gone: []api.Place{gone(0, 4)}}, api.OK)
			x.back()
			if files := len(x.m.State().Levels[0]); (files > 1) != (want == api.OK) {
				t.Error(n, files)
			}
		}
	}
	// More bytes than one record bears may lie in the manifest, in many.
	x := begun(t, 4096, small())
	x.append(ofBytes(t, api.MaxRecord), api.OK)
	x.append(api.Edit{Gone: []api.Place{gone(0, 1000)}, Come: []api.Added{come(1, f(7, "a", "b"))}}, api.OK)
	x.append(api.Edit{Log: 7}, api.OK)
	x.back()
}

// P17.2: the disk refuses, by plan, by quota, for want of the file: nothing has changed, and the next edit stands where it would have.
func TestAppendRefused(t *testing.T) {
	edits := []api.Edit{
		{Log: 20, Next: 400, Seq: 1 << 41, Gone: []api.Place{gone(0, 4)}, Come: []api.Added{come(1, f(50, "a", "b"))}},
		{},
		{Come: []api.Added{come(3, f(51, "m", "n")), come(3, f(52, "k", "l"))}},
	}
	for _, block := range []int{api.MinBlock, 33, 64, 4096} {
		for _, e := range edits {
			x := begun(t, block, wide())
			x.both(func(d *disk.Disk) { d.Refuse(0, 2) })
			x.append(e, api.ErrNoSpace)
			x.append(e, api.ErrNoSpace)
			x.back()
			x.append(api.Edit{Seq: 5}, api.OK)
			x.back()
			x.append(e, api.OK)
			x.back()

			used := x.d.Used()
			cost := len(plainAdd(block, x.plain.size, plainEditBytes(api.Edit{Log: 77, Seq: 1 << 50})))
			for room := range cost {
				x.both(func(d *disk.Disk) { d.SetQuota(used + room) })
				x.append(api.Edit{Log: 77, Seq: 1 << 50}, api.ErrNoSpace)
			}
			x.both(func(d *disk.Disk) { d.SetQuota(used + cost) })
			x.append(api.Edit{Log: 77, Seq: 1 << 50}, api.OK)
			x.append(api.Edit{}, api.ErrNoSpace)
			x.back()
		}
	}
}

// P17.2: a disk that has not its file refuses at Append, ahead of any Sync; Sync itself has nothing to refuse behind an Append that went well.
func TestAppendMissing(t *testing.T) {
	x := begun(t, 64, wide())
	x.both(func(d *disk.Disk) { d.Rename("MANIFEST-000015", "away") })
	for range 2 {
		x.append(api.Edit{Log: 77}, api.ErrMissing)
	}
	x.append(api.Edit{Log: -1}, api.ErrArg)
	x.append(api.Edit{Gone: []api.Place{gone(1, 1)}}, api.ErrVersion)
	x.append(ofBytes(t, api.MaxRecord+1), api.ErrBig)
	if !same(x.m.State(), wide()) || len(x.d.List()) != 2 {
		t.Error(brief(x.m.State()), files(x.d))
	}
	x.both(func(d *disk.Disk) { d.Rename("away", "MANIFEST-000015") })
	x.append(api.Edit{Log: 77}, api.OK)
	x.back()
	// The disk is the one that is handed in: another one has no such file.
	other := fresh(t, 1000)
	if e := x.m.Append(other, api.Edit{Log: 78}); e != api.ErrMissing || len(other.List()) != 0 {
		t.Error(int(e), other.List())
	}
	x.look("behind another disk")
}

// P17.3: two manifests of two disks do not hang together.
func TestTwoManifests(t *testing.T) {
	x, y := begun(t, 64, wide()), begun(t, 32, small())
	x.append(api.Edit{Log: 5}, api.OK)
	y.append(api.Edit{Log: 6}, api.OK)
	x.look("the first one")
	y.look("the second one")
	x.back()
	y.back()
}

// P17.1, P17.2: all that Begin and Append wrote lasts; a crash that keeps nothing takes nothing.
func TestAllLasts(t *testing.T) {
	x := begun(t, 64, wide())
	for i := range 20 {
		for _, name := range x.d.List() {
			if size, lasts, e := x.d.Size(name); size != lasts || e != api.OK {
				t.Error(i, name, size, lasts, int(e))
			}
		}
		x.both(func(d *disk.Disk) { d.Crash(nil) })
		x.back()
		x.append(api.Edit{Seq: uint64(i + 1), Come: []api.Added{come(0, f(100+i, "a", "b"))}}, api.OK)
	}
	x.back()
}
