package disk

import (
	"bytes"
	"slices"

	"moraine/api"
)

// Read tells at most n bytes from a place on.
func (d *Disk) Read(name string, at, n int) ([]byte, api.Errno) {
	f, e := d.find(name)
	if e != api.OK {
		return nil, e
	}
	if at < 0 || at > len(f.bytes) || n < 0 {
		return nil, api.ErrArg
	}
	n = min(n, len(f.bytes)-at)
	return bytes.Clone(f.bytes[at : at+n]), api.OK
}

// Size tells how many bytes a file has, and how many of them last.
func (d *Disk) Size(name string) (size, synced int, e api.Errno) {
	f, e := d.find(name)
	return len(f.bytes), f.lasts, e
}

// List tells all names, rising.
func (d *Disk) List() []string {
	if d.isNone() {
		return nil
	}
	names := make([]string, 0, len(d.files))
	for name := range d.files {
		names = append(names, name)
	}
	slices.Sort(names)
	return names
}

// Used tells how many bytes all files have.
func (d *Disk) Used() int {
	if d.isNone() {
		return 0
	}
	used := 0
	for _, f := range d.files {
		used += len(f.bytes)
	}
	return used
}

// Quota tells the quota.
func (d *Disk) Quota() int {
	if d.isNone() {
		return 0
	}
	return d.quota
}

// Refused tells how many calls were refused, since New.
func (d *Disk) Refused() int {
	if d.isNone() {
		return 0
	}
	return d.refused
}
