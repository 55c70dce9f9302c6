package disk

import (
	"math"
	"slices"
	"testing"

	"moraine/api"
)

// tailed is a disk with the files a, b, c: of each two bytes last, and three more do not.
func tailed(t *testing.T) *Disk {
	t.Helper()
	d := fresh(t, 100)
	for _, name := range []string{"c", "a", "b"} {
		d.Create(name)
		d.Append(name, []byte(name+name))
		d.Sync(name)
		d.Append(name, []byte("xyz"))
	}
	return d
}

// P5.6
func TestCrash(t *testing.T) {
	cases := []struct {
		keep []int
		want [3]string
	}{
		{nil, [3]string{"aa", "bb", "cc"}},
		{[]int{}, [3]string{"aa", "bb", "cc"}},
		{[]int{0}, [3]string{"aa", "bb", "cc"}},
		{[]int{1}, [3]string{"aax", "bbx", "ccx"}},
		{[]int{3}, [3]string{"aaxyz", "bbxyz", "ccxyz"}},
		{[]int{4}, [3]string{"aaxyz", "bbxyz", "ccxyz"}},
		{[]int{math.MaxInt}, [3]string{"aaxyz", "bbxyz", "ccxyz"}},
		{[]int{-1}, [3]string{"aa", "bb", "cc"}},
		{[]int{math.MinInt, 2}, [3]string{"aa", "bbxy", "cc"}},
		{[]int{1, 2}, [3]string{"aax", "bbxy", "ccx"}},
		{[]int{1, 2, 3}, [3]string{"aax", "bbxy", "ccxyz"}},
		{[]int{0, 1, 2, 3, 4}, [3]string{"aa", "bbx", "ccxy"}},
	}
	for _, c := range cases {
		d := tailed(t)
		keep := slices.Clone(c.keep)
		is(t, "Crash", d.Crash(keep), api.OK)
		for i, name := range []string{"a", "b", "c"} {
			holds(t, d, name, c.want[i])
			sizes(t, d, name, len(c.want[i]), len(c.want[i]))
		}
		if !slices.Equal(keep, c.keep) {
			t.Error("what was handed in is changed", keep)
		}
		before := d.Clone()
		is(t, "Crash again", d.Crash(nil), api.OK)
		if !d.Same(before) {
			t.Error("a second crash took what lasts")
		}
	}
}

// P5.6: files that lasted whole count in the order of names, too, and a disk without files can crash.
func TestCrashOrder(t *testing.T) {
	d := tailed(t)
	d.Sync("a")
	d.Create("aa")
	is(t, "Crash", d.Crash([]int{9, 9, 1, 2}), api.OK)
	holds(t, d, "a", "aaxyz")
	holds(t, d, "aa", "")
	holds(t, d, "b", "bbx")
	holds(t, d, "c", "ccxy")
	is(t, "Crash of nothing", fresh(t, 0).Crash([]int{1}), api.OK)
}

// P5.6: what is put behind after a crash stands where the lost bytes were.
func TestBehindCrash(t *testing.T) {
	d := tailed(t)
	d.Crash([]int{1})
	d.Append("a", []byte("12"))
	holds(t, d, "a", "aax12")
	sizes(t, d, "a", 5, 3)
	d.Crash(nil)
	holds(t, d, "a", "aax")
}

// P5.6: the plan is gone; quota and Refused stay.
func TestPlanBehindCrash(t *testing.T) {
	d := tailed(t)
	d.Refuse(0, 5)
	d.Create("refused")
	is(t, "Crash", d.Crash(nil), api.OK)
	if got := tries(d, 'm', 3); got != "..." {
		t.Error(got)
	}
	if d.Quota() != 100 || d.Refused() != 1 {
		t.Error(d.Quota(), d.Refused())
	}
	d.Refuse(1, 5)
	d.Crash(nil)
	if got := tries(d, 'p', 3); got != "..." {
		t.Error(got)
	}
	d.Refuse(1, 1)
	if got := tries(d, 's', 3); got != ".x." || d.Refused() != 2 {
		t.Error("a plan behind a crash:", got, d.Refused())
	}
}

// P5.7
func TestClone(t *testing.T) {
	d := tailed(t)
	d.SetQuota(17)
	d.Refuse(1, 1)
	is(t, "a refusal", d.Append("a", []byte("123")), api.ErrNoSpace)
	c := d.Clone()
	if c == d || !c.Same(d) || c.Quota() != 17 || c.Refused() != 1 || c.Used() != 15 {
		t.Fatal(c.Quota(), c.Refused(), c.Used())
	}
	for _, x := range []*Disk{c, d} { // each has the plan for itself
		if got := tries(x, 'p', 2); got != "x." || x.Refused() != 2 {
			t.Error(got, x.Refused())
		}
	}
	sizes(t, c, "a", 5, 2)
	d.Append("a", []byte("1"))
	c.Append("a", []byte("2"))
	holds(t, d, "a", "aaxyz1")
	holds(t, c, "a", "aaxyz2")
	c.Sync("b")
	sizes(t, d, "b", 5, 2)
	c.SetQuota(50)
	c.Remove("c")
	d.Rename("b", "z")
	c.Refuse(0, 9)
	if d.Quota() != 17 || !slices.Equal(d.List(), []string{"a", "c", "q", "z"}) || !slices.Equal(c.List(), []string{"a", "b", "q"}) {
		t.Error(d.Quota(), d.List(), c.List())
	}
	is(t, "no plan here", d.Create("new"), api.OK)
	d.Crash(nil)
	is(t, "Crash of the other takes no plan", c.Create("new"), api.ErrNoSpace)
	holds(t, c, "a", "aaxyz2")

	e := fresh(t, 3).Clone()
	is(t, "Create on a clone without files", e.Create("a"), api.OK)
}

// P5.7: a clone behind a crash does not take the room where lost bytes were.
func TestCloneBehindCrash(t *testing.T) {
	d := tailed(t)
	d.Crash(nil)
	c := d.Clone()
	d.Append("a", []byte("1"))
	c.Append("a", []byte("2"))
	holds(t, d, "a", "aa1")
	holds(t, c, "a", "aa2")
}

// P5.7
func TestSame(t *testing.T) {
	differ := map[string]func(d *Disk){
		"a name":             func(d *Disk) { d.Rename("a", "aa") },
		"a file more":        func(d *Disk) { d.Create("d") },
		"a file less":        func(d *Disk) { d.Remove("b") },
		"what lasts":         func(d *Disk) { d.Sync("b") },
		"a byte more":        func(d *Disk) { d.Append("b", []byte("b")) },
		"a byte":             func(d *Disk) { d.Crash([]int{2}); d.Append("c", []byte("Z")) },
		"names changed over": func(d *Disk) { d.Rename("a", "t"); d.Rename("b", "a"); d.Rename("t", "b") },
	}
	for what, change := range differ {
		d, o := tailed(t), tailed(t)
		change(o)
		if d.Same(o) || o.Same(d) {
			t.Error(what, "is not told")
		}
	}
	alike := map[string]func(d *Disk){
		"nothing": func(d *Disk) {},
		"quota":   func(d *Disk) { d.SetQuota(3) },
		"plan":    func(d *Disk) { d.Refuse(3, 4) },
		"Refused": func(d *Disk) { d.Refuse(0, 1); d.Create("q") },
		"order":   func(d *Disk) { d.Create("z"); d.Remove("z"); d.Rename("a", "y"); d.Rename("y", "a") },
	}
	for what, change := range alike {
		d, o := tailed(t), tailed(t)
		change(o)
		if !d.Same(o) || !o.Same(d) || !o.Same(o) {
			t.Error(what, "is told")
		}
	}
	d, o := with(t, 9, "a"), fresh(t, 9)
	o.Create("a")
	o.Append("a", []byte("b"))
	if d.Same(o) || o.Same(d) {
		t.Error("a byte is not told")
	}
}

// P5.7: nil ones, and by rule 1 ones that no call gave.
func TestSameOfNone(t *testing.T) {
	var none *Disk
	plain, empty := &Disk{}, fresh(t, 0)
	if !none.Same(nil) || !none.Same(none) {
		t.Error("two nil ones are not the same")
	}
	for _, d := range []*Disk{plain, empty, tailed(t)} {
		if none.Same(d) || d.Same(none) || plain.Same(d) || d.Same(plain) {
			t.Error("a disk is the same as one that is none")
		}
	}
}
