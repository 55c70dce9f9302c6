package manifest

import (
	"moraine/api"
	"moraine/disk"
	"moraine/journal"
	"moraine/names"
)

// isNone asks the disk itself whether it is one: a plain disk.Disk{} is as little one as nil.
func isNone(d *disk.Disk) bool {
	_, _, errno := d.Size("")
	return errno == api.ErrNil
}

func isBlock(block int) bool {
	_, errno := journal.NewWriter(block, 0)
	return errno == api.OK
}

// adds tells the bytes that a record adds to a journal of so many bytes. A writer is made for each record, so that none has gone on where the disk then refuses the bytes.
func adds(block, size int, record []byte) ([]byte, api.Errno) {
	w, errno := journal.NewWriter(block, size)
	if errno != api.OK {
		return nil, errno
	}
	return w.Add(record)
}

// pointTo makes CURRENT name a manifest: what it is to say is written apart, so that the old one is there until the new one lasts.
func pointTo(d *disk.Disk, number int) api.Errno {
	// A Number that a manifest has gives these names, too.
	temp, _ := names.Name(names.FileTemp, number)
	says, _ := names.Current(number)
	current, _ := names.Name(names.FileCurrent, 0)
	if errno := createLasting(d, temp, []byte(says)); errno != api.OK {
		return errno
	}
	return d.Rename(temp, current)
}

func createLasting(d *disk.Disk, name string, b []byte) api.Errno {
	if errno := d.Create(name); errno != api.OK {
		return errno
	}
	return putLasting(d, name, b)
}

func putLasting(d *disk.Disk, name string, b []byte) api.Errno {
	if errno := d.Append(name, b); errno != api.OK {
		return errno
	}
	return d.Sync(name)
}

// readFile tells all bytes of a file; none has more than the greatest quota.
func readFile(d *disk.Disk, kind, number int) ([]byte, api.Errno) {
	name, errno := names.Name(kind, number)
	if errno != api.OK {
		return nil, errno
	}
	return d.Read(name, 0, api.MaxQuota)
}
