package disk

import (
	"bytes"
	"math/rand"
	"slices"
	"testing"

	"moraine/api"
)

// plainDisk is the chapter word by word: files in one list in the order of their names, each byte with a mark of its own, the plan as one mark for each try to come.
type plainDisk struct {
	files   []plainFile
	quota   int
	plan    []bool
	refused int
}

type plainFile struct {
	name  string
	bytes []byte
	lasts []bool
}

func plainName(name string) bool {
	return 1 <= len(name) && len(name) <= api.MaxName
}

func (d *plainDisk) place(name string) int {
	for i, f := range d.files {
		if f.name == name {
			return i
		}
	}
	return -1
}

func (d *plainDisk) find(name string) (int, api.Errno) {
	if !plainName(name) {
		return 0, api.ErrArg
	}
	if d.place(name) < 0 {
		return 0, api.ErrMissing
	}
	return d.place(name), api.OK
}

func (d *plainDisk) used() int {
	n := 0
	for _, f := range d.files {
		n += len(f.bytes)
	}
	return n
}

func (d *plainDisk) tried(full bool) bool {
	planned := false
	if len(d.plan) > 0 {
		planned = d.plan[0]
		d.plan = d.plan[1:]
	}
	if planned || full {
		d.refused++
	}
	return planned || full
}

func (d *plainDisk) create(name string) api.Errno {
	if !plainName(name) {
		return api.ErrArg
	}
	if d.place(name) >= 0 {
		return api.ErrExists
	}
	if d.tried(len(d.files) == api.MaxFiles) {
		return api.ErrNoSpace
	}
	d.files = append(d.files, plainFile{name: name})
	d.sort()
	return api.OK
}

func (d *plainDisk) sort() {
	slices.SortFunc(d.files, func(a, b plainFile) int { return bytes.Compare([]byte(a.name), []byte(b.name)) })
}

func (d *plainDisk) add(name string, b []byte) api.Errno {
	i, e := d.find(name)
	if e != api.OK {
		return e
	}
	if d.tried(d.used()+len(b) > d.quota) {
		return api.ErrNoSpace
	}
	for _, c := range b {
		d.files[i].bytes = append(d.files[i].bytes, c)
		d.files[i].lasts = append(d.files[i].lasts, false)
	}
	return api.OK
}

func (d *plainDisk) refuse(after, count int) api.Errno {
	if after < 0 || count < 0 {
		return api.ErrArg
	}
	d.plan = append(make([]bool, after), slices.Repeat([]bool{true}, count)...)
	return api.OK
}

func (d *plainDisk) sync(name string) api.Errno {
	i, e := d.find(name)
	if e != api.OK {
		return e
	}
	for k := range d.files[i].lasts {
		d.files[i].lasts[k] = true
	}
	return api.OK
}

func (d *plainDisk) rename(from, to string) api.Errno {
	if !plainName(from) || !plainName(to) {
		return api.ErrArg
	}
	if d.place(from) < 0 {
		return api.ErrMissing
	}
	if from == to {
		return api.OK
	}
	if i := d.place(to); i >= 0 {
		d.files = slices.Delete(d.files, i, i+1)
	}
	d.files[d.place(from)].name = to
	d.sort()
	return api.OK
}

func (d *plainDisk) remove(name string) api.Errno {
	i, e := d.find(name)
	if e != api.OK {
		return e
	}
	d.files = slices.Delete(d.files, i, i+1)
	return api.OK
}

func (d *plainDisk) read(name string, at, n int) ([]byte, api.Errno) {
	i, e := d.find(name)
	if e != api.OK {
		return nil, e
	}
	if at < 0 || at > len(d.files[i].bytes) || n < 0 {
		return nil, api.ErrArg
	}
	var out []byte
	for k, c := range d.files[i].bytes {
		if k >= at && len(out) < n {
			out = append(out, c)
		}
	}
	return out, api.OK
}

func (d *plainDisk) crash(keep []int) {
	for i := range d.files {
		f := &d.files[i]
		stays := 0
		if len(keep) > 0 {
			stays = keep[i%len(keep)]
		}
		var left []byte
		for k, c := range f.bytes {
			if f.lasts[k] {
				left = append(left, c)
			} else if stays > 0 {
				left = append(left, c)
				stays--
			}
		}
		f.bytes, f.lasts = left, slices.Repeat([]bool{true}, len(left))
	}
	d.plan = nil
}

func (d *plainDisk) clone() *plainDisk {
	c := &plainDisk{quota: d.quota, refused: d.refused, plan: slices.Clone(d.plan)}
	for _, f := range d.files {
		c.files = append(c.files, plainFile{f.name, slices.Clone(f.bytes), slices.Clone(f.lasts)})
	}
	return c
}

func (d *plainDisk) same(o *plainDisk) bool {
	return slices.EqualFunc(d.files, o.files, func(a, b plainFile) bool {
		return a.name == b.name && slices.Equal(a.bytes, b.bytes) && slices.Equal(a.lasts, b.lasts)
	})
}

// agree fails if the two disks can be told apart by a look.
func agree(t *testing.T, d *Disk, p *plainDisk) {
	t.Helper()
	var names []string
	for _, f := range p.files {
		names = append(names, f.name)
		lasts := 0
		for _, l := range f.lasts {
			if l {
				lasts++
			}
		}
		if n, s, e := d.Size(f.name); n != len(f.bytes) || s != lasts || e != api.OK {
			t.Fatalf("Size(%q) = %d, %d, %d, want %d, %d", f.name, n, s, e, len(f.bytes), lasts)
		}
		if b, e := d.Read(f.name, 0, len(f.bytes)); !bytes.Equal(b, f.bytes) || e != api.OK {
			t.Fatalf("Read(%q) = %q, %d, want %q", f.name, b, e, f.bytes)
		}
	}
	if l := d.List(); !slices.Equal(l, names) {
		t.Fatalf("List = %q, want %q", l, names)
	}
	if d.Used() != p.used() || d.Quota() != p.quota || d.Refused() != p.refused {
		t.Fatalf("Used %d, Quota %d, Refused %d, want %d, %d, %d", d.Used(), d.Quota(), d.Refused(), p.used(), p.quota, p.refused)
	}
}

// pair is a disk and the plain one that it is held against.
type pair struct {
	d *Disk
	p *plainDisk
}

// step does one call, picked by r, to both.
func (x pair) step(r *rand.Rand) (got, want api.Errno) {
	name := someName(r)
	switch r.Intn(12) {
	case 0, 1:
		return x.d.Create(name), x.p.create(name)
	case 2, 3, 4:
		b := make([]byte, r.Intn(7))
		r.Read(b)
		return x.d.Append(name, b), x.p.add(name, b)
	case 5:
		return x.d.Sync(name), x.p.sync(name)
	case 6:
		to := someName(r)
		return x.d.Rename(name, to), x.p.rename(name, to)
	case 7:
		return x.d.Remove(name), x.p.remove(name)
	case 8:
		after, count := r.Intn(6)-1, r.Intn(6)-1
		return x.d.Refuse(after, count), x.p.refuse(after, count)
	case 9:
		at, n := r.Intn(12)-1, r.Intn(12)-1
		b, e := x.d.Read(name, at, n)
		c, f := x.p.read(name, at, n)
		if !bytes.Equal(b, c) {
			return -1, f
		}
		return e, f
	case 10:
		if r.Intn(4) > 0 {
			return api.OK, api.OK
		}
		keep := make([]int, r.Intn(5))
		for i := range keep {
			keep[i] = r.Intn(9) - 2
		}
		x.p.crash(keep)
		return x.d.Crash(keep), api.OK
	default:
		q := r.Intn(40)
		x.p.quota = q
		return x.d.SetQuota(q), api.OK
	}
}

func someName(r *rand.Rand) string {
	return []string{"a", "a", "b", "b", "c", "ab", "\xff", "\x00", "a\x00", "", string(make([]byte, api.MaxName)), string(make([]byte, api.MaxName+1))}[r.Intn(12)]
}

// P5.1 to P5.8 together: any calls in any order answer what the chapter says, on disks that go on apart too.
func TestAnyCalls(t *testing.T) {
	for seed := range int64(300) {
		r := rand.New(rand.NewSource(seed))
		d, _ := New(30)
		pairs := []pair{{d, &plainDisk{quota: 30}}}
		for range 200 {
			x := pairs[r.Intn(len(pairs))]
			if r.Intn(30) == 0 && len(pairs) < 4 {
				pairs = append(pairs, pair{x.d.Clone(), x.p.clone()})
			}
			if got, want := x.step(r); got != want {
				t.Fatalf("seed %d: %d, want %d", seed, got, want)
			}
			for _, y := range pairs {
				agree(t, y.d, y.p)
				if got, want := x.d.Same(y.d), x.p.same(y.p); got != want {
					t.Fatalf("seed %d: Same %v, want %v", seed, got, want)
				}
			}
		}
	}
}
