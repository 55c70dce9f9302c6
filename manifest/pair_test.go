package manifest

import (
	"fmt"
	"slices"
	"strings"
	"testing"

	"moraine/api"
	"moraine/disk"
)

// same tells whether states are the same: a list without an element may be nil or empty.
func same(a, b State) bool {
	return a.Log == b.Log && a.Next == b.Next && a.Seq == b.Seq && a.Number == b.Number &&
		slices.EqualFunc(a.Levels, b.Levels, slices.Equal[[]api.File])
}

// isZero tells whether a state is what stands beside an error.
func isZero(s State) bool { return same(s, State{}) }

func fresh(t *testing.T, quota int) *disk.Disk {
	t.Helper()
	d, e := disk.New(quota)
	if e != api.OK {
		t.Fatal(int(e))
	}
	return d
}

// probes tells what disks answer to the next tries: what is left of a plan, and the quota.
func probes(d *disk.Disk) string {
	d = d.Clone()
	out := ""
	for i := range 8 {
		out += fmt.Sprint(int(d.Create(fmt.Sprint("probe", i))), int(d.Append("probe0", nil)), " ")
	}
	return out
}

// sameDisks tells whether two disks are alike in all that a later call could tell.
func sameDisks(a, b *disk.Disk) bool {
	return a.Same(b) && a.Quota() == b.Quota() && a.Refused() == b.Refused() && probes(a) == probes(b)
}

// files tells all files with their bytes, and how many of these last.
func files(d *disk.Disk) string {
	out := ""
	for _, name := range d.List() {
		b, _ := d.Read(name, 0, 60)
		size, lasts, _ := d.Size(name)
		out += fmt.Sprintf("%s %d %d %q; ", name, size, lasts, b)
	}
	return out
}

// pair is a disk and a manifest, and the same by the chapter's words; what is done is done to both.
type pair struct {
	t     *testing.T
	d, p  *disk.Disk
	m     *Manifest
	plain *plainManifest
}

func newPair(t *testing.T, quota int) *pair {
	t.Helper()
	return &pair{t: t, d: fresh(t, quota), p: fresh(t, quota)}
}

// begun is a pair with a manifest.
func begun(t *testing.T, block int, s State) *pair {
	t.Helper()
	x := newPair(t, 1<<26)
	x.begin(block, s, api.OK)
	return x
}

// both does the same to both disks.
func (x *pair) both(do func(d *disk.Disk)) {
	do(x.d)
	do(x.p)
}

// look expects both to be alike, in all that can be asked.
func (x *pair) look(what string) {
	x.t.Helper()
	if !sameDisks(x.d, x.p) {
		x.t.Fatalf("%s: the disk has %s, %s, refused %d; want %s, %s, %d", what, files(x.d), probes(x.d), x.d.Refused(), files(x.p), probes(x.p), x.p.Refused())
	}
	if x.plain == nil {
		return
	}
	if got := x.m.State(); !same(got, x.plain.state) {
		x.t.Fatalf("%s: State is %s, want %s", what, brief(got), brief(x.plain.state))
	}
	if size, whole := x.m.Size(); size != x.plain.size || whole != x.plain.whole {
		x.t.Fatalf("%s: Size is %d, %d, want %d, %d", what, size, whole, x.plain.size, x.plain.whole)
	}
}

// begin expects a Begin to answer an error or none. The manifest that was there goes on where it does not.
func (x *pair) begin(block int, s State, want api.Errno) {
	x.t.Helper()
	what := fmt.Sprintf("Begin(%d, %s)", block, brief(s))
	plain, e := plainBegin(x.p, block, s)
	if e != want {
		x.t.Fatalf("%s: by the chapter's words error %d, by the test %d", what, int(e), int(want))
	}
	m, e := Begin(x.d, block, s)
	if e != want || (m == nil) != (want != api.OK) {
		x.t.Fatalf("%s: error %d, a manifest: %v; want error %d", what, int(e), m != nil, int(want))
	}
	if want == api.OK {
		x.m, x.plain = m, plain
	}
	x.look(what)
}

// append expects an Append to answer an error or none.
func (x *pair) append(e api.Edit, want api.Errno) {
	x.t.Helper()
	what := "Append of " + brief(e)
	if plain := x.plain.append(x.p, e); plain != want {
		x.t.Fatalf("%s: by the chapter's words error %d, by the test %d", what, int(plain), int(want))
	}
	if got := x.m.Append(x.d, e); got != want {
		x.t.Fatalf("%s: error %d, want %d", what, int(got), int(want))
	}
	x.look(what)
}

// load expects a Load to answer an error or none, and to change nothing.
func (x *pair) load(block, levels int, want api.Errno) State {
	x.t.Helper()
	wanted, e := plainLoad(x.p, block, levels)
	if e != want {
		x.t.Fatalf("Load(%d, %d): by the chapter's words error %d, by the test %d; %s", block, levels, int(e), int(want), files(x.p))
	}
	got, e := Load(x.d, block, levels)
	if e != want || !same(got, wanted) {
		x.t.Fatalf("Load(%d, %d) = %s, error %d; want %s, error %d; %s", block, levels, brief(got), int(e), brief(wanted), int(want), files(x.d))
	}
	x.look("Load")
	return got
}

// current expects a Current to answer an error or a Number, and to change nothing.
func (x *pair) current(number int, want api.Errno) {
	x.t.Helper()
	if got, e := Current(x.d); got != number || e != want {
		x.t.Fatalf("Current = %d, error %d; want %d, error %d", got, int(e), number, int(want))
	}
	if got, e := plainCurrent(x.p); got != number || e != want {
		x.t.Fatalf("Current by the chapter's words: %d, error %d; by the test %d, %d", got, int(e), number, int(want))
	}
	x.look("Current")
}

// back expects what is loaded to be the state (P17.5).
func (x *pair) back() {
	x.t.Helper()
	if got := x.load(x.plain.block, len(x.plain.state.Levels), api.OK); !same(got, x.m.State()) {
		x.t.Fatalf("loaded %s, State is %s", brief(got), brief(x.m.State()))
	}
	x.current(x.plain.state.Number, api.OK)
}

// put makes a file of bytes, in the place of the one that is there, all of which last.
func (x *pair) put(name string, b []byte) {
	x.both(func(d *disk.Disk) {
		d.Remove(name)
		d.Create(name)
		d.Append(name, b)
		d.Sync(name)
	})
}

// wrongInts are ints that no limit bears.
func wrongInts() []int {
	return []int{-1, -2, -1 << 31, -1 << 63, 1<<63 - 1, 1 << 32, 1<<32 + 1, 1 << 31}
}

// ofBytes tells an edit with just so many bytes, which brings as many files as it must to level 0.
func ofBytes(t *testing.T, n int) api.Edit {
	t.Helper()
	var e api.Edit
	file := func(least, limit, size int) api.Added {
		return come(0, api.File{Number: 1000 + len(e.Come), Size: size, Least: strings.Repeat("k", least), Limit: strings.Repeat("l", limit), Low: 1, High: 1})
	}
	cost := func(x api.Added) int { return len(plainEditBytes(api.Edit{Come: []api.Added{x}})) }
	rest := n
	for rest > 2030 {
		x := file(1000, 1000, 1)
		e.Come, rest = append(e.Come, x), rest-cost(x)
	}
	for _, least := range []int{1, 1000} {
		for _, size := range []int{1, 200} {
			for limit := 1; limit <= api.MaxKey+1 && rest > 0; limit++ {
				if x := file(least, limit, size); cost(x) == rest {
					e.Come, rest = append(e.Come, x), 0
				}
			}
		}
	}
	if got := len(plainEditBytes(e)); got != n {
		t.Fatalf("%d bytes, want %d", got, n)
	}
	return e
}
