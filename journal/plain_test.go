package journal

import (
	"hash/crc32"
	"math/rand"

	"moraine/api"
)

// plainSum is the kept sum of a piece, by the library's CRC-32C and the chapter 2's words on masks.
func plainSum(kind byte, data []byte) uint32 {
	sum := crc32.Checksum(append([]byte{kind}, data...), crc32.MakeTable(crc32.Castagnoli))
	return (sum>>15 | sum<<17) + 0xa282ead8
}

// plainPiece is a piece's bytes, whatever its kind.
func plainPiece(kind byte, data []byte) []byte {
	sum := plainSum(kind, data)
	out := []byte{byte(sum), byte(sum >> 8), byte(sum >> 16), byte(sum >> 24), byte(len(data) % 256), byte(len(data) / 256), kind}
	return append(out, data...)
}

// plainAdd is what a record adds behind so many bytes: laid out byte by byte, as P7.1 says it.
func plainAdd(block, size int, record []byte) []byte {
	var out []byte
	told, pieces := 0, 0
	for pieces == 0 || told < len(record) {
		place := (size%block + len(out)) % block
		for place != 0 && block-place < 7 {
			out = append(out, 0)
			place = (place + 1) % block
		}
		var data []byte
		for told < len(record) && place+7+len(data) < block {
			data = append(data, record[told])
			told++
		}
		pieces++
		kind := byte(3)
		if told == len(record) {
			kind = 4
		}
		if pieces == 1 {
			kind = 2
			if told == len(record) {
				kind = 1
			}
		}
		out = append(out, plainPiece(kind, data)...)
	}
	return out
}

// told is what Read tells.
type told struct {
	records []string
	places  []int // behind each of them
	end     int
	how     int
}

// plainRead is what a file tells: gone through as P7.2 says it, line by line.
func plainRead(block int, file []byte) (t told) {
	var record []byte
	inRecord := false
	at := 0
	for {
		if at == len(file) {
			if inRecord {
				t.how = Torn
			}
			return t
		}
		blockEnd := (at/block + 1) * block
		if blockEnd-at < 7 {
			if file[at] != 0 {
				t.how = Bent
				return t
			}
			at++
			continue
		}
		if at+7 > len(file) {
			t.how = Torn
			return t
		}
		count, kind := int(file[at+4])+256*int(file[at+5]), file[at+6]
		if kind == 0 || kind >= 5 || at+7+count > blockEnd {
			t.how = Bent
			return t
		}
		if at+7+count > len(file) {
			t.how = Torn
			return t
		}
		data := file[at+7 : at+7+count]
		if string(plainPiece(kind, data)) != string(file[at:at+7+count]) {
			t.how = Bent
			return t
		}
		if inRecord && kind <= 2 || !inRecord && kind >= 3 || len(record)+count > api.MaxRecord {
			t.how = Bent
			return t
		}
		at += 7 + count
		record, inRecord = append(record, data...), true
		if kind == 1 || kind == 4 {
			t.records, t.places, t.end = append(t.records, string(record)), append(t.places, at), at
			record, inRecord = nil, false
		}
	}
}

// plainFile is a file of records, and the places behind each of them.
func plainFile(block int, records ...string) (file []byte, places []int) {
	for _, r := range records {
		file = append(file, plainAdd(block, len(file), []byte(r))...)
		places = append(places, len(file))
	}
	return file, places
}

// some are so many bytes that tell places apart.
func some(n int) []byte {
	b := make([]byte, n)
	for i := range b {
		b[i] = byte(i*7 + i/251 + 1)
	}
	return b
}

func randomBytes(chance *rand.Rand, n int) []byte {
	b := make([]byte, n)
	chance.Read(b)
	return b
}

// joined are parts, one behind the other.
func joined(parts ...[]byte) (out []byte) {
	for _, p := range parts {
		out = append(out, p...)
	}
	return out
}
