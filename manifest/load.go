package manifest

import (
	"cmp"

	"moraine/api"
	"moraine/disk"
	"moraine/edit"
	"moraine/journal"
	"moraine/names"
	"moraine/version"
)

// Load reads what CURRENT names.
func Load(d *disk.Disk, block, levels int) (State, api.Errno) {
	s, err := load(d, block, levels)
	return s, told(err)
}

// Current tells the number that CURRENT names.
func Current(d *disk.Disk) (int, api.Errno) {
	number, err := current(d)
	return number, told(err)
}

func load(d *disk.Disk, block, levels int) (State, error) {
	if isNone(d) {
		return State{}, api.ErrNil
	}
	if !isBlock(block) || levels < 1 || levels > api.MaxLevels {
		return State{}, api.ErrArg
	}
	number, err := current(d)
	if err != nil {
		return State{}, err
	}
	records, err := readRecords(d, block, number)
	if err != nil {
		return State{}, err
	}
	s := State{Levels: make(api.Levels, levels), Number: number}
	for _, record := range records {
		e, errno := edit.Decode(record)
		if errno != api.OK {
			return State{}, ofManifest{errno}
		}
		s, errno = behind(s, e)
		if errno != api.OK {
			return State{}, ofManifest{errno}
		}
	}
	return s, nil
}

func current(d *disk.Disk) (int, error) {
	if isNone(d) {
		return 0, api.ErrNil
	}
	b, errno := readFile(d, names.FileCurrent, 0)
	if errno != api.OK {
		return 0, ofCurrent{errno}
	}
	number, errno := names.Named(string(b))
	if errno != api.OK {
		return 0, ofCurrent{errno}
	}
	return number, nil
}

// readRecords tells the records of a manifest; a torn end, which a crash can leave, is no fault.
func readRecords(d *disk.Disk, block, number int) ([][]byte, error) {
	b, errno := readFile(d, names.FileManifest, number)
	if errno != api.OK {
		return nil, ofManifest{errno}
	}
	records, _, how, errno := journal.Read(block, b)
	if errno != api.OK {
		return nil, ofManifest{errno}
	}
	if len(records) == 0 || how == journal.Bent {
		return nil, api.ErrManifest
	}
	return records, nil
}

// behind tells the state behind an edit, in memory of its own.
func behind(s State, e api.Edit) (State, api.Errno) {
	levels, errno := version.Apply(s.Levels, e)
	if errno != api.OK {
		return State{}, errno
	}
	return State{
		Levels: levels,
		Log:    cmp.Or(e.Log, s.Log),
		Next:   cmp.Or(e.Next, s.Next),
		Seq:    cmp.Or(e.Seq, s.Seq),
		Number: s.Number,
	}, api.OK
}
