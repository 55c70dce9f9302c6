package manifest

import (
	"fmt"
	"math/rand"
	"slices"
	"testing"

	"moraine/api"
	"moraine/disk"
)

// anyFile makes a file of few bounds, so that files meet.
func anyFile(chance *rand.Rand, number int) api.File {
	least := chance.Intn(8)
	low := 1 + chance.Uint64()>>(10+chance.Intn(50))
	return api.File{
		Number: number, Size: 1 + chance.Intn(1<<chance.Intn(28)),
		Least: string(rune('a' + least)), Limit: string(rune('a'+least+1+chance.Intn(2))) + string(make([]byte, chance.Intn(3))),
		Low: low, High: low + uint64(chance.Intn(3)),
	}
}

// anyEdit makes an edit that mostly fits a state, and is at times not even valid.
func anyEdit(chance *rand.Rand, s State) api.Edit {
	var e api.Edit
	if chance.Intn(3) == 0 {
		e.Log = chance.Intn(1 << chance.Intn(31))
	}
	if chance.Intn(3) == 0 {
		e.Next = chance.Intn(1 << chance.Intn(31))
	}
	if chance.Intn(3) == 0 {
		e.Seq = chance.Uint64() >> (8 + chance.Intn(56))
	}
	for level, files := range s.Levels {
		for _, x := range files {
			if chance.Intn(4) == 0 {
				e.Gone = append(e.Gone, gone(level, x.Number))
			}
		}
	}
	for range chance.Intn(3) {
		e.Come = append(e.Come, come(chance.Intn(len(s.Levels)), anyFile(chance, 1+chance.Intn(200))))
	}
	switch chance.Intn(30) {
	case 0:
		e.Log = -1 - chance.Intn(9)
	case 1:
		e.Gone = append(e.Gone, gone(chance.Intn(9), chance.Intn(5)))
	case 2:
		e.Come = append(e.Come, come(chance.Intn(9)-1, anyFile(chance, chance.Intn(9))))
	case 3:
		e.Seq = api.MaxSeq + 1
	}
	return e
}

// anyState makes a state that mostly may be.
func anyState(chance *rand.Rand) State {
	s := State{Levels: make(api.Levels, 1+chance.Intn(api.MaxLevels)), Number: 1 + chance.Intn(12)}
	for range 5 {
		if next, ok := plainBehind(s, anyEdit(chance, s)); ok && plainEditValid(plainWhole(next)) {
			s = next
		}
	}
	switch chance.Intn(25) {
	case 0:
		s.Number = -chance.Intn(2)
	case 1:
		s.Log = -1
	case 2:
		s.Levels = append(s.Levels, make(api.Levels, api.MaxLevels)...)
	case 3:
		s.Levels[0] = []api.File{anyFile(chance, 9), anyFile(chance, 9)}
	}
	return s
}

func anyBlock(chance *rand.Rand) int {
	if chance.Intn(20) == 0 {
		return []int{-1, 0, 31, 32769}[chance.Intn(4)]
	}
	return 32 + chance.Intn(1<<(1+chance.Intn(8)))
}

// trouble does something to the disk that is none of a manifest's calls.
func (x *pair) trouble(chance *rand.Rand) {
	kind, a, b := chance.Intn(12), chance.Intn(5), chance.Intn(3)
	names := x.d.List()
	name := "none"
	if len(names) > 0 {
		name = names[chance.Intn(len(names))]
	}
	x.both(func(d *disk.Disk) {
		switch kind {
		case 0, 1, 2:
			d.Refuse(a, b)
		case 3:
			d.SetQuota(d.Used() + 60*a)
		case 4, 5:
			d.SetQuota(1 << 20)
		case 6:
			d.Crash([]int{a, b})
		case 7:
			d.Crash(nil)
		case 8:
			d.Remove(name)
		case 9:
			d.Rename(name, fmt.Sprintf("MANIFEST-%06d", a+1))
		case 10:
			d.Append(name, []byte("\x00\x00\x00\x00\x03\x00\x01")[:a+b])
		case 11:
			d.Rename(name, "CURRENT")
		}
	})
}

// All promises: any calls, with any trouble between, held against the chapter's words.
func TestAnyCalls(t *testing.T) {
	counts := map[string]int{}
	for seed := range int64(400) {
		chance := rand.New(rand.NewSource(seed))
		x := newPair(t, 1<<20)
		for range 60 {
			what, e := "", api.OK
			switch kind := chance.Intn(20); {
			case kind < 2 || x.plain == nil && kind < 12:
				block, s := anyBlock(chance), anyState(chance)
				_, e = plainBegin(x.p.Clone(), block, s)
				x.begin(block, s, e)
				what = "Begin"
			case kind < 12:
				edit := anyEdit(chance, x.plain.state)
				plain := *x.plain
				e = plain.append(x.p.Clone(), edit)
				x.append(edit, e)
				what = "Append"
			case kind < 14:
				x.trouble(chance)
			default:
				block, levels := anyBlock(chance), chance.Intn(9)
				if x.plain != nil && chance.Intn(6) > 0 {
					block, levels = x.plain.block, len(x.plain.state.Levels)
				}
				_, e = plainLoad(x.p, block, levels)
				x.load(block, levels, e)
				number, e := plainCurrent(x.p)
				x.current(number, e)
				what = "Load"
			}
			counts[fmt.Sprint(what, " ", int(e))]++
		}
		if t.Failed() {
			t.Fatalf("seed %d", seed)
		}
	}
	// So that the way through is not a lame one.
	for _, need := range []string{"Begin 0", "Begin 2", "Begin 50", "Begin 52", "Append 0", "Append 2", "Append 160", "Append 51", "Append 52", "Load 0", "Load 2", "Load 170", "Load 171"} {
		if counts[need] < 20 {
			t.Errorf("%s: %d times", need, counts[need])
		}
	}
}

// P17.5: any states and edits, with refusals and crashes between, are loaded as they are.
func TestAnyBack(t *testing.T) {
	for seed := range int64(200) {
		chance := rand.New(rand.NewSource(seed))
		s := anyState(chance)
		for !plainLevelsValid(s.Levels) || !plainEditValid(plainWhole(s)) || s.Number < 1 {
			s = anyState(chance)
		}
		x := begun(t, 32+chance.Intn(100), s)
		x.back()
		for range 30 {
			refused := chance.Intn(2)
			x.both(func(d *disk.Disk) { d.Refuse(0, refused) })
			e := anyEdit(chance, x.plain.state)
			plain := *x.plain
			x.append(e, plain.append(x.p.Clone(), e))
			keep := []int{chance.Intn(3), chance.Intn(9)}
			if chance.Intn(3) == 0 {
				keep = nil
			}
			if chance.Intn(2) == 0 {
				x.both(func(d *disk.Disk) { d.Crash(keep) })
			}
			x.back()
		}
	}
}

// Rule 5: the same calls answer the same, byte by byte.
func TestSameCalls(t *testing.T) {
	run := func() (*disk.Disk, []api.Errno) {
		d, chance := fresh(t, 5000), rand.New(rand.NewSource(5))
		m, e := Begin(d, 64, wide())
		out := []api.Errno{e}
		for range 50 {
			out = append(out, m.Append(d, anyEdit(chance, m.State())))
		}
		return d, out
	}
	d, a := run()
	other, b := run()
	if !sameDisks(d, other) || !slices.Equal(a, b) {
		t.Error(a, b)
	}
}
