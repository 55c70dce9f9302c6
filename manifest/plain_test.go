package manifest

import (
	"encoding/binary"
	"fmt"
	"hash/crc32"
	"math"
	"slices"
	"strings"

	"moraine/api"
	"moraine/disk"
)

// What the chapters say of journals, edits, versions and manifests, word by word and without the packages' own functions: the tests hold the package against it.

// brief tells the beginning of anything.
func brief(x any) string {
	s := fmt.Sprintf("%+v", x)
	return s[:min(len(s), 300)]
}

// f is a file that may be.
func f(number int, least, limit string) api.File {
	return api.File{Number: number, Size: 10, Least: least, Limit: limit, Low: 1, High: 1}
}

func gone(level, number int) api.Place { return api.Place{Level: level, Number: number} }

func come(level int, x api.File) api.Added { return api.Added{Level: level, File: x} }

// small is the state of the chapter's examples.
func small() State {
	return State{Levels: make(api.Levels, 2), Log: 2, Next: 3, Number: 1}
}

// wide is a state with empty levels between others, each thing by another number.
func wide() State {
	return State{Levels: api.Levels{
		{{Number: 4, Size: 7, Least: "c", Limit: "k", Low: 20, High: 22}, {Number: 11, Size: 8, Least: "a", Limit: "f", Low: 23, High: 24}},
		nil,
		{{Number: 9, Size: 100, Least: "b", Limit: "d", Low: 10, High: 11}, {Number: 2, Size: 200, Least: "d", Limit: "e", Low: 12, High: 13}},
		{},
		{{Number: 1, Size: 1000, Least: "a", Limit: "z\x00\xff", Low: 1, High: 9}},
	}, Log: 13, Next: 300, Seq: 1 << 40, Number: 15}
}

func plainPiece(kind byte, data []byte) []byte {
	sum := crc32.Checksum(append([]byte{kind}, data...), crc32.MakeTable(crc32.Castagnoli))
	sum = (sum>>15 | sum<<17) + 0xa282ead8
	out := []byte{byte(sum), byte(sum >> 8), byte(sum >> 16), byte(sum >> 24), byte(len(data) % 256), byte(len(data) / 256), kind}
	return append(out, data...)
}

// plainAdd is what a record adds to a journal behind so many bytes.
func plainAdd(block, size int, record []byte) []byte {
	var out []byte
	for first := true; first || len(record) > 0; first = false {
		left := block - (size+len(out))%block
		if left < 7 {
			out = append(out, make([]byte, left)...)
			left = block
		}
		n := min(left-7, len(record))
		kind := byte(3)
		switch {
		case first && n == len(record):
			kind = 1
		case first:
			kind = 2
		case n == len(record):
			kind = 4
		}
		out = append(out, plainPiece(kind, record[:n])...)
		record = record[n:]
		if kind == 1 || kind == 4 {
			break
		}
	}
	return out
}

// plainFile is a journal of records.
func plainFile(block int, records ...[]byte) []byte {
	var out []byte
	for _, r := range records {
		out = append(out, plainAdd(block, len(out), r)...)
	}
	return out
}

// plainRead tells the records of a journal, and whether it is bent.
func plainRead(block int, file []byte) (records [][]byte, bent bool) {
	var record []byte
	in := false
	for at := 0; at < len(file); {
		left := block - at%block
		if left < 7 {
			if file[at] != 0 {
				return records, true
			}
			at++
			continue
		}
		if len(file)-at < 7 {
			return records, false
		}
		n, kind := int(file[at+4])+256*int(file[at+5]), file[at+6]
		if kind < 1 || kind > 4 || 7+n > left {
			return records, true
		}
		if 7+n > len(file)-at {
			return records, false
		}
		data := file[at+7 : at+7+n]
		if string(plainPiece(kind, data)) != string(file[at:at+7+n]) || in != (kind > 2) || len(record)+n > 1<<21 {
			return records, true
		}
		record, in, at = append(record, data...), true, at+7+n
		if kind == 1 || kind == 4 {
			records = append(records, record)
			record, in = nil, false
		}
	}
	return records, false
}

func plainMayBe(x api.File) bool {
	ok := x.Number >= 1 && x.Number <= 1<<31-1 && x.Size >= 1 && x.Size <= 1<<28
	ok = ok && len(x.Least) >= 1 && len(x.Least) <= 1024 && x.Limit > x.Least && len(x.Limit) <= 1025
	return ok && x.Low >= 1 && x.High >= x.Low && x.High <= 1<<56-1
}

// plainEditValid holds no two against each other by more than their numbers, since an edit may have many.
func plainEditValid(e api.Edit) bool {
	ok := e.Log >= 0 && e.Log <= 1<<31-1 && e.Next >= 0 && e.Next <= 1<<31-1 && e.Seq <= 1<<56-1
	places, numbers := map[api.Place]bool{}, map[int]bool{}
	for _, p := range e.Gone {
		ok = ok && p.Level >= 0 && p.Level <= 6 && p.Number >= 1 && p.Number <= 1<<31-1 && !places[p]
		places[p] = true
	}
	for _, x := range e.Come {
		ok = ok && x.Level >= 0 && x.Level <= 6 && plainMayBe(x.File) && !numbers[x.File.Number]
		numbers[x.File.Number] = true
	}
	return ok
}

func plainEditBytes(e api.Edit) []byte {
	var b []byte
	for i, v := range []uint64{uint64(e.Log), uint64(e.Next), e.Seq} {
		if v != 0 {
			b = binary.AppendUvarint(append(b, byte(i+1)), v)
		}
	}
	for _, p := range e.Gone {
		b = binary.AppendUvarint(binary.AppendUvarint(append(b, 4), uint64(p.Level)), uint64(p.Number))
	}
	for _, x := range e.Come {
		b = append(b, 5)
		for _, v := range []int{x.Level, x.File.Number, x.File.Size} {
			b = binary.AppendUvarint(b, uint64(v))
		}
		for _, s := range []string{x.File.Least, x.File.Limit} {
			b = append(binary.AppendUvarint(b, uint64(len(s))), s...)
		}
		b = binary.AppendUvarint(binary.AppendUvarint(b, x.File.Low), x.File.High)
	}
	return b
}

// plainReader takes numbers and texts from bytes; what is not there is a great number or an empty text, and spoils it.
type plainReader struct {
	rest   []byte
	spoilt bool
}

func (r *plainReader) number() uint64 {
	v, n := binary.Uvarint(r.rest)
	if n <= 0 {
		r.spoilt, r.rest = true, nil
		return math.MaxUint64
	}
	r.rest = r.rest[n:]
	return v
}

func (r *plainReader) text() string {
	n := r.number()
	if n > uint64(len(r.rest)) {
		r.spoilt, r.rest = true, nil
		return ""
	}
	s := string(r.rest[:n])
	r.rest = r.rest[n:]
	return s
}

// plainDecode reads bytes as an edit, and tells whether they are one's.
func plainDecode(b []byte) (e api.Edit, ok bool) {
	r := plainReader{rest: b}
	for len(r.rest) > 0 {
		tag := r.rest[0]
		r.rest = r.rest[1:]
		switch tag {
		case 1:
			e.Log = int(r.number())
		case 2:
			e.Next = int(r.number())
		case 3:
			e.Seq = r.number()
		case 4:
			level := int(r.number())
			e.Gone = append(e.Gone, gone(level, int(r.number())))
		case 5:
			x := api.Added{Level: int(r.number())}
			x.File.Number, x.File.Size = int(r.number()), int(r.number())
			x.File.Least, x.File.Limit = r.text(), r.text()
			x.File.Low, x.File.High = r.number(), r.number()
			e.Come = append(e.Come, x)
		default:
			r.spoilt, r.rest = true, nil
		}
	}
	return e, !r.spoilt && plainEditValid(e) && string(plainEditBytes(e)) == string(b)
}

func plainWhole(s State) api.Edit {
	e := api.Edit{Log: s.Log, Next: s.Next, Seq: s.Seq}
	for level := range s.Levels {
		for _, x := range s.Levels[level] {
			e.Come = append(e.Come, come(level, x))
		}
	}
	return e
}

func plainLevelsValid(l api.Levels) bool {
	ok := len(l) >= 1 && len(l) <= 7
	numbers := map[int]bool{}
	for level := range l {
		for i, x := range l[level] {
			ok = ok && plainMayBe(x) && !numbers[x.Number]
			numbers[x.Number] = true
			if i > 0 && level == 0 {
				ok = ok && l[level][i-1].Number < x.Number
			}
			if i > 0 && level > 0 {
				ok = ok && l[level][i-1].Limit <= x.Least
			}
		}
	}
	return ok
}

func plainApply(l api.Levels, e api.Edit) (api.Levels, bool) {
	out := make(api.Levels, len(l))
	for level := range l {
		out[level] = append([]api.File(nil), l[level]...)
	}
	for _, p := range e.Gone {
		at := -1
		if p.Level >= 0 && p.Level < len(out) {
			at = slices.IndexFunc(out[p.Level], func(x api.File) bool { return x.Number == p.Number })
		}
		if at < 0 {
			return nil, false
		}
		out[p.Level] = slices.Delete(out[p.Level], at, at+1)
	}
	for _, x := range e.Come {
		if x.Level < 0 || x.Level >= len(out) {
			return nil, false
		}
		out[x.Level] = append(out[x.Level], x.File)
	}
	for level := range out {
		slices.SortStableFunc(out[level], func(a, b api.File) int {
			if level == 0 {
				return a.Number - b.Number
			}
			return strings.Compare(a.Least, b.Least)
		})
	}
	return out, plainLevelsValid(out)
}

func plainBehind(s State, e api.Edit) (State, bool) {
	levels, ok := plainApply(s.Levels, e)
	s.Levels = levels
	if e.Log != 0 {
		s.Log = e.Log
	}
	if e.Next != 0 {
		s.Next = e.Next
	}
	if e.Seq != 0 {
		s.Seq = e.Seq
	}
	return s, ok
}

// plainManifest is a manifest as P17.1 to P17.3 tell it.
type plainManifest struct {
	block       int
	name        string
	state       State
	size, whole int
}

func plainName(number int) string { return fmt.Sprintf("MANIFEST-%06d", number) }

// plainCalls makes calls up to the first that is refused.
func plainCalls(calls ...func() api.Errno) api.Errno {
	for _, call := range calls {
		if e := call(); e != api.OK {
			return e
		}
	}
	return api.OK
}

func plainBegin(d *disk.Disk, block int, s State) (*plainManifest, api.Errno) {
	if d.Clone() == nil {
		return nil, api.ErrNil
	}
	if block < 32 || block > 32768 || s.Number < 1 || s.Number > 1<<31-1 || !plainLevelsValid(s.Levels) || !plainEditValid(plainWhole(s)) {
		return nil, api.ErrArg
	}
	record := plainEditBytes(plainWhole(s))
	if len(record) > 1<<21 {
		return nil, api.ErrBig
	}
	name, temp := plainName(s.Number), fmt.Sprintf("%06d.tmp", s.Number)
	b := plainAdd(block, 0, record)
	e := plainCalls(
		func() api.Errno { return d.Create(name) },
		func() api.Errno { return d.Append(name, b) },
		func() api.Errno { return d.Sync(name) },
		func() api.Errno { return d.Create(temp) },
		func() api.Errno { return d.Append(temp, []byte(name+"\n")) },
		func() api.Errno { return d.Sync(temp) },
		func() api.Errno { return d.Rename(temp, "CURRENT") },
	)
	if e != api.OK {
		return nil, e
	}
	levels, _ := plainApply(s.Levels, api.Edit{}) // memory of its own
	s.Levels = levels
	return &plainManifest{block, name, s, len(b), len(b)}, api.OK
}

func (m *plainManifest) append(d *disk.Disk, e api.Edit) api.Errno {
	if m == nil || d.Clone() == nil {
		return api.ErrNil
	}
	if !plainEditValid(e) {
		return api.ErrArg
	}
	next, ok := plainBehind(m.state, e)
	if !ok {
		return api.ErrVersion
	}
	record := plainEditBytes(e)
	if len(record) > 1<<21 {
		return api.ErrBig
	}
	b := plainAdd(m.block, m.size, record)
	errno := plainCalls(
		func() api.Errno { return d.Append(m.name, b) },
		func() api.Errno { return d.Sync(m.name) },
	)
	if errno == api.OK {
		m.state, m.size = next, m.size+len(b)
	}
	return errno
}

func plainCurrent(d *disk.Disk) (int, api.Errno) {
	if d.Clone() == nil {
		return 0, api.ErrNil
	}
	b, e := d.Read("CURRENT", 0, 1<<28)
	if e != api.OK {
		return 0, api.ErrCurrent
	}
	var number int
	if _, err := fmt.Sscanf(string(b), "MANIFEST-%d\n", &number); err != nil || number < 1 || number > 1<<31-1 || plainName(number)+"\n" != string(b) {
		return 0, api.ErrCurrent
	}
	return number, api.OK
}

func plainLoad(d *disk.Disk, block, levels int) (State, api.Errno) {
	if d.Clone() == nil {
		return State{}, api.ErrNil
	}
	if block < 32 || block > 32768 || levels < 1 || levels > 7 {
		return State{}, api.ErrArg
	}
	number, e := plainCurrent(d)
	if e != api.OK {
		return State{}, e
	}
	b, e := d.Read(plainName(number), 0, 1<<28)
	if e != api.OK {
		return State{}, api.ErrManifest
	}
	records, bent := plainRead(block, b)
	if bent || len(records) == 0 {
		return State{}, api.ErrManifest
	}
	s := State{Levels: make(api.Levels, levels), Number: number}
	for _, r := range records {
		x, ok := plainDecode(r)
		if ok {
			s, ok = plainBehind(s, x)
		}
		if !ok {
			return State{}, api.ErrManifest
		}
	}
	return s, api.OK
}
