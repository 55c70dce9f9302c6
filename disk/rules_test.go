package disk

import (
	"bytes"
	"slices"
	"testing"

	"moraine/api"
)

// Rule 1
func TestNone(t *testing.T) {
	for _, d := range []*Disk{nil, {}} {
		for _, name := range []string{"a", ""} {
			is(t, "Create", d.Create(name), api.ErrNil)
			is(t, "Append", d.Append(name, nil), api.ErrNil)
			is(t, "Sync", d.Sync(name), api.ErrNil)
			is(t, "Rename", d.Rename("a", name), api.ErrNil)
			is(t, "Rename", d.Rename(name, "a"), api.ErrNil)
			is(t, "Remove", d.Remove(name), api.ErrNil)
			b, e := d.Read(name, -1, -1)
			is(t, "Read", e, api.ErrNil)
			n, s, e := d.Size(name)
			is(t, "Size", e, api.ErrNil)
			if b != nil || n != 0 || s != 0 {
				t.Error(b, n, s)
			}
		}
		for _, n := range []int{-1, 1} {
			is(t, "SetQuota", d.SetQuota(n), api.ErrNil)
			is(t, "Refuse", d.Refuse(n, n), api.ErrNil)
			is(t, "Crash", d.Crash([]int{n}), api.ErrNil)
		}
		if len(d.List()) != 0 || d.Used() != 0 || d.Quota() != 0 || d.Refused() != 0 || d.Clone() != nil {
			t.Error(d.List(), d.Used(), d.Quota(), d.Refused(), d.Clone())
		}
		is(t, "Create, behind all these", d.Create("a"), api.ErrNil)
	}
}

// Rules 4 and 8: what is handed in is neither changed nor kept, and its spare room is not touched.
func TestHandedIn(t *testing.T) {
	d := with(t, 100, "a")
	room := []byte("12345678")
	for range 3 {
		is(t, "Append", d.Append("a", room[:3]), api.OK)
	}
	if string(room) != "12345678" {
		t.Errorf("%q", room)
	}
	clear(room)
	holds(t, d, "a", "a123123123")
	keep := []int{1, 7, 7, 7}
	d.Crash(keep[:1])
	if !slices.Equal(keep, []int{1, 7, 7, 7}) {
		t.Error(keep)
	}
}

// Rule 4: what is handed out is new memory, spare room too.
func TestHandedOut(t *testing.T) {
	d := with(t, 100, "abc", "d")
	b, _ := d.Read("abc", 0, 2)
	other, _ := d.Read("abc", 0, 3)
	for i := range b[:cap(b)] {
		b[:cap(b)][i] = 'X'
	}
	if string(other) != "abc" {
		t.Errorf("%q", other)
	}
	none, _ := d.Read("abc", 1, 0)
	_ = append(none, "YYYY"...)
	holds(t, d, "abc", "abc")
	l := d.List()
	l[0] = "changed"
	if !slices.Equal(d.List(), []string{"abc", "d"}) {
		t.Error(d.List())
	}
}

// Rule 4: bytes that were read go on as they were, whatever the disk does.
func TestReadStays(t *testing.T) {
	d := with(t, 100, "abcdef")
	b, _ := d.Read("abcdef", 0, 6)
	d.Crash([]int{2})
	d.Append("abcdef", []byte("123456"))
	d.Remove("abcdef")
	if !bytes.Equal(b, []byte("abcdef")) {
		t.Errorf("%q", b)
	}
}
