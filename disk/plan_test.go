package disk

import (
	"math"
	"testing"

	"moraine/api"
)

// tries creates so many files, and tells for each whether it was refused: one letter each.
func tries(d *Disk, first rune, n int) string {
	out := ""
	for i := range n {
		if d.Create(string(first+rune(i))) == api.ErrNoSpace {
			out += "x"
		} else {
			out += "."
		}
	}
	return out
}

// P5.3
func TestRefuse(t *testing.T) {
	cases := []struct {
		after, count int
		want         string
	}{
		{0, 0, "......"}, {0, 1, "x....."}, {1, 2, ".xx..."}, {3, 0, "......"}, {5, 1, ".....x"}, {6, 1, "......"},
		{0, math.MaxInt, "xxxxxx"}, {2, math.MaxInt, "..xxxx"}, {math.MaxInt, math.MaxInt, "......"},
	}
	for _, c := range cases {
		d := fresh(t, 10)
		is(t, "Refuse", d.Refuse(c.after, c.count), api.OK)
		if got := tries(d, 'a', len(c.want)); got != c.want {
			t.Errorf("Refuse(%d, %d): %s, want %s", c.after, c.count, got, c.want)
		}
		refused := 0
		for _, r := range c.want {
			if r == 'x' {
				refused++
			}
		}
		if d.Refused() != refused || len(d.List()) != len(c.want)-refused {
			t.Error(c, d.Refused(), d.List())
		}
	}
}

// P5.3: a plan that may not be leaves the one that is there.
func TestRefuseArg(t *testing.T) {
	d := fresh(t, 10)
	d.Refuse(1, 1)
	for _, c := range [][2]int{{-1, 0}, {0, -1}, {-1, -1}, {math.MinInt, 5}, {5, math.MinInt}} {
		is(t, "Refuse", d.Refuse(c[0], c[1]), api.ErrArg)
	}
	if got := tries(d, 'a', 4); got != ".x.." {
		t.Error(got)
	}
}

// P5.3: a new plan ahead of the old one's end takes its place.
func TestRefuseAnew(t *testing.T) {
	d := fresh(t, 10)
	d.Refuse(0, 9)
	if got := tries(d, 'a', 2); got != "xx" {
		t.Error(got)
	}
	d.Refuse(2, 1)
	if got := tries(d, 'a', 1); got != "." {
		t.Error(got)
	}
	d.Refuse(1, 2)
	if got := tries(d, 'f', 5); got != ".xx.." {
		t.Error(got)
	}
	d.Refuse(0, 9)
	d.Refuse(0, 0)
	if got := tries(d, 'p', 3); got != "..." || d.Refused() != 4 {
		t.Error(got, d.Refused())
	}
}

// P5.3: each try counts, also one that is refused for want of room while it is let by; one that the plan refuses as well counts once.
func TestTriesCount(t *testing.T) {
	d := with(t, 2, "a")
	d.Refuse(2, 2)
	is(t, "let by, too much", d.Append("a", []byte("xx")), api.ErrNoSpace)
	is(t, "let by", d.Append("a", nil), api.OK)
	is(t, "refused, and too much", d.Append("a", []byte("xx")), api.ErrNoSpace)
	is(t, "refused", d.Append("a", []byte("x")), api.ErrNoSpace)
	is(t, "behind", d.Append("a", []byte("x")), api.OK)
	holds(t, d, "a", "ax")
	if d.Refused() != 3 {
		t.Error(d.Refused())
	}
}

// P5.3: what an error ahead of ErrNoSpace refuses is no try, nor is any other call.
func TestNoTry(t *testing.T) {
	d := with(t, 10, "a", "b")
	d.Refuse(1, 1)
	for range 3 {
		is(t, "no name", d.Create(""), api.ErrArg)
		is(t, "there", d.Create("a"), api.ErrExists)
		is(t, "no name", d.Append("", nil), api.ErrArg)
		is(t, "missing", d.Append("z", nil), api.ErrMissing)
		is(t, "Sync", d.Sync("a"), api.OK)
		is(t, "Rename", d.Rename("b", "c"), api.OK)
		is(t, "Rename", d.Rename("c", "b"), api.OK)
		is(t, "Remove", d.Remove("z"), api.ErrMissing)
		is(t, "SetQuota", d.SetQuota(20), api.OK)
		d.Read("a", 0, 1)
		d.Size("a")
	}
	if got := tries(d, 'p', 3); got != ".x." || d.Refused() != 1 {
		t.Error(got, d.Refused())
	}
	d.Refuse(0, 1)
	is(t, "there", d.Create("a"), api.ErrExists)
	is(t, "missing", d.Append("z", nil), api.ErrMissing)
	is(t, "no name", d.Create(""), api.ErrArg)
	is(t, "refused", d.Append("a", nil), api.ErrNoSpace)
}
