package journal

import (
	"bytes"
	"iter"
	"math"
	"math/rand"
	"slices"
	"strings"
	"testing"

	"moraine/api"
)

// expectRead holds Read and All of a file against what is asked for.
func expectRead(t *testing.T, block int, file []byte, want told) {
	t.Helper()
	records, end, how, e := Read(block, file)
	if e != api.OK || end != want.end || how != want.how {
		t.Errorf("block %d, %d bytes: Read ends at %d, %d, error %d; want %d, %d", block, len(file), end, how, int(e), want.end, want.how)
	}
	expectRecords(t, records, want.records)
	var places []int
	records = nil
	for behind, record := range All(block, file) {
		places, records = append(places, behind), append(records, record)
	}
	expectRecords(t, records, want.records)
	if !slices.Equal(places, want.places) {
		t.Errorf("block %d, %d bytes: All tells the places %v, want %v", block, len(file), places, want.places)
	}
}

func expectRecords(t *testing.T, got [][]byte, want []string) {
	t.Helper()
	same := len(got) == len(want)
	for i := 0; same && i < len(want); i++ {
		same = string(got[i]) == want[i]
	}
	if !same {
		t.Errorf("%d records, want %d, or others", len(got), len(want))
	}
}

// expectHow holds a file without a whole record against how its reading must end.
func expectHow(t *testing.T, what string, block int, file []byte, how int) {
	t.Helper()
	if got := plainRead(block, file); got.how != how {
		t.Errorf("%s: the plain reading ends with %d, want %d", what, got.how, how)
	}
	if _, _, got, _ := Read(block, file); got != how {
		t.Errorf("%s: Read ends with %d, want %d", what, got, how)
	}
	expectRead(t, block, file, plainRead(block, file))
}

// P7.2, P7.3: blocks that are none.
func TestReadBlocks(t *testing.T) {
	file, _ := plainFile(32, "abc", "")
	for _, block := range []int{api.MinBlock - 1, api.MaxBlock + 1, 0, 1, -32, math.MinInt, math.MaxInt} {
		for _, f := range [][]byte{nil, file, []byte("bent")} {
			records, end, how, e := Read(block, f)
			if len(records) != 0 || end != 0 || how != 0 || e != api.ErrArg {
				t.Errorf("Read(%d, ..) = %d records, %d, %d, error %d", block, len(records), end, how, int(e))
			}
			for range All(block, f) {
				t.Errorf("All(%d, ..) tells a record", block)
			}
		}
	}
	for _, block := range []int{api.MinBlock, api.MaxBlock} {
		expectRead(t, block, nil, told{})
		expectRead(t, block, []byte{}, told{})
		f, _ := plainFile(block, "abc")
		expectRead(t, block, f, told{[]string{"abc"}, []int{10}, 10, Clean})
	}
}

// The chapter's third example.
func TestThirdExample(t *testing.T) {
	w := newWriter(t, 32, 0)
	abc, _ := w.Add([]byte("abc"))
	twenty, _ := w.Add(some(20))
	file := joined(abc, twenty)
	expectRead(t, 32, file, told{[]string{"abc", string(some(20))}, []int{10, 44}, 44, Clean})
	expectRead(t, 32, file[:43], told{[]string{"abc"}, []int{10}, 10, Torn})
}

// P7.4: what writers told is read again.
func TestThereAndBack(t *testing.T) {
	chance := rand.New(rand.NewSource(74))
	for range 300 {
		block := []int{32, 33, 39, 40, 64, 300, api.MaxBlock}[chance.Intn(7)]
		w := newWriter(t, block, 0)
		var file []byte
		var want told
		for range chance.Intn(20) {
			record := randomBytes(chance, chance.Intn(1+[]int{0, 5, 26, 100, 2000}[chance.Intn(5)]))
			b, _ := w.Add(record)
			file = append(file, b...)
			want.records, want.places = append(want.records, string(record)), append(want.places, len(file))
		}
		want.end = w.Size()
		expectRead(t, block, file, want)
	}
}

// P7.4: the greatest records, in the least and in the greatest blocks.
func TestGreatestRecordsThereAndBack(t *testing.T) {
	greatest := string(some(api.MaxRecord))
	for _, block := range []int{api.MinBlock, 1000, api.MaxBlock} {
		w := newWriter(t, block, 0)
		a, _ := w.Add([]byte(greatest))
		b, _ := w.Add(nil)
		c, _ := w.Add([]byte(greatest))
		expectRead(t, block, joined(a, b, c), told{[]string{greatest, "", greatest}, []int{len(a), len(a) + len(b), w.Size()}, w.Size(), Clean})
	}
}

// P7.5: a file that ends at every place: within the seven bytes, the data, between two pieces, within the noughts.
func TestEveryBeginning(t *testing.T) {
	chance := rand.New(rand.NewSource(75))
	lists := [][]string{
		{"abc", string(some(20)), "", string(some(100)), "x"},
		{"", "", "", "", "", "", "", "", "", ""},
		{string(some(25)), string(some(18)), "ab", string(some(17)), "", string(some(19)), string(some(26))},
		{string(some(400))},
	}
	for range 30 {
		var l []string
		for range 8 {
			l = append(l, string(randomBytes(chance, chance.Intn(70))))
		}
		lists = append(lists, l)
	}
	for _, records := range lists {
		for _, block := range []int{32, 33, 37, 64} {
			file, places := plainFile(block, records...)
			for end := range len(file) + 1 {
				whole, _ := slices.BinarySearch(places, end+1)
				want := told{records: records[:whole], places: places[:whole], how: Torn}
				if whole > 0 {
					want.end = places[whole-1]
				}
				if isBetween(block, want.end, end) {
					want.how = Clean
				}
				expectRead(t, block, file[:end], want)
			}
		}
	}
}

// isBetween tells whether a file that ends at a place has nothing of a next record: noughts at most.
func isBetween(block, behind, end int) bool {
	left := block - behind%block
	return end == behind || left < 7 && end-behind <= left
}

// P7.2: the noughts at a block's end: cut, whole, and bytes that are none, in and out of a record.
func TestBlockEnds(t *testing.T) {
	for left := 1; left <= 6; left++ {
		first := plainPiece(1, some(25-left))
		begun := plainPiece(2, some(25-left))
		for n := range left + 1 {
			expectRead(t, 32, joined(first, make([]byte, n)), told{[]string{string(some(25 - left))}, []int{32 - left}, 32 - left, Clean})
			expectHow(t, "noughts in a record", 32, joined(begun, make([]byte, n)), Torn)
			for other := range n {
				noughts := make([]byte, n)
				noughts[other] = 1 << (left - 1)
				expectRead(t, 32, joined(first, noughts), told{[]string{string(some(25 - left))}, []int{32 - left}, 32 - left, Bent})
				expectHow(t, "no noughts in a record", 32, joined(begun, noughts), Bent)
				expectRead(t, 32, joined(first, noughts, make([]byte, left-n), plainPiece(1, nil)), told{[]string{string(some(25 - left))}, []int{32 - left}, 32 - left, Bent})
			}
		}
		behind := joined(first, make([]byte, left), plainPiece(1, []byte("b")))
		expectRead(t, 32, behind, told{[]string{string(some(25 - left)), "b"}, []int{32 - left, 40}, 40, Clean})
		over := joined(begun, make([]byte, left), plainPiece(4, []byte("b")))
		expectRead(t, 32, over, told{[]string{string(some(25-left)) + "b"}, []int{40}, 40, Clean})
	}
	expectHow(t, "noughts where a piece could stand", 32, make([]byte, 7), Bent)
	expectHow(t, "a few noughts where a piece could stand", 32, make([]byte, 6), Torn)
	expectHow(t, "noughts where just a head has room", 32, joined(plainPiece(1, some(18)), make([]byte, 7)), Bent)
}

// P7.2: kinds that are none, and lengths beyond the block.
func TestKindsAndLengths(t *testing.T) {
	for kind := range 256 {
		file := plainPiece(byte(kind), []byte("abc"))
		want := []int{Bent, Clean, Torn, Bent, Bent, Bent}[min(kind, 5)]
		expectHow(t, "a kind", 32, file, want)
		expectHow(t, "a kind without data", 32, plainPiece(byte(kind), nil), want)
		if kind == 0 || kind >= 5 {
			expectHow(t, "a kind that is none, in a record", 32, joined(plainPiece(2, nil), file), Bent)
			expectHow(t, "a kind that is none, without its data", 32, file[:7], Bent)
			expectHow(t, "a kind that is none, cut", 32, file[:6], Torn)
		}
	}
	for _, block := range []int{32, 64, 1000, api.MaxBlock} {
		for _, ahead := range []int{0, 1, 5} {
			first := plainPiece(1, some(ahead))
			room := block - len(first) - 7
			expectRead(t, block, joined(first, plainPiece(1, some(room))), told{[]string{string(some(ahead)), string(some(room))}, []int{7 + ahead, block}, block, Clean})
			beyond := joined(first, plainPiece(1, some(room+1)))
			expectHow(t, "one byte beyond the block", block, beyond, Bent)
			expectHow(t, "one byte beyond the block, more behind", block, joined(beyond, make([]byte, 100)), Bent)
			expectHow(t, "one byte beyond the block, cut", block, beyond[:len(first)+7], Bent)
			expectHow(t, "one byte beyond the block, the seven bytes cut", block, beyond[:len(first)+6], Torn)
		}
	}
	expectHow(t, "the greatest length", api.MaxBlock, []byte{0, 0, 0, 0, 255, 255, 1}, Bent)
	expectHow(t, "the greatest length, cut", api.MaxBlock, []byte{0, 0, 0, 0, 255, 255}, Torn)
	expectHow(t, "a length of 256", api.MaxBlock, joined([]byte{0, 0, 0, 0, 0, 1, 1}, make([]byte, 255)), Torn)
}

// P7.2: pieces in every order: which may follow which.
func TestOrdersOfPieces(t *testing.T) {
	const pieces = 5
	for number := range 4 * 4 * 4 * 4 * 4 {
		var file []byte
		for i, rest := 0, number; i < pieces; i, rest = i+1, rest/4 {
			file = append(file, plainPiece(byte(rest%4+1), []byte{byte('a' + i)})...)
		}
		expectRead(t, 64, file, plainRead(64, file))
	}
	one, two, three, four := plainPiece(1, []byte("a")), plainPiece(2, []byte("b")), plainPiece(3, []byte("c")), plainPiece(4, []byte("d"))
	expectRead(t, 64, joined(one, two, three, three, four, one), told{[]string{"a", "bccd", "a"}, []int{8, 40, 48}, 48, Clean})
	for _, c := range []struct {
		file []byte
		how  int
	}{
		{joined(one, three), Bent}, {joined(one, four), Bent},
		{joined(one, two), Torn}, {joined(one, two, three), Torn},
		{joined(one, two, one), Bent}, {joined(one, two, two), Bent},
		{joined(one, two, three, one), Bent}, {joined(one, two, three, two, four), Bent},
	} {
		expectRead(t, 64, c.file, told{[]string{"a"}, []int{8}, 8, c.how})
	}
}

// P7.2: a record of just MaxRecord bytes, and with more, in its last piece and in one ahead of it.
func TestRecordsOfTooManyBytes(t *testing.T) {
	const block = api.MaxBlock
	room := block - 7
	ahead := plainPiece(1, some(room))
	file := joined(ahead, plainPiece(2, some(room)))
	gathered := string(some(room))
	for len(gathered)+room <= api.MaxRecord {
		file = append(file, plainPiece(3, some(room))...)
		gathered += string(some(room))
	}
	rest := api.MaxRecord - len(gathered)
	one := told{[]string{string(some(room))}, []int{block}, block, Bent}
	two := told{[]string{string(some(room)), gathered + string(some(rest))}, []int{block, len(file) + 7 + rest}, len(file) + 7 + rest, Clean}
	expectRead(t, block, joined(file, plainPiece(4, some(rest))), two)
	expectRead(t, block, joined(file, plainPiece(4, some(rest+1))), one)
	expectRead(t, block, joined(file, plainPiece(3, some(rest+1))), one)
	full := joined(file, plainPiece(3, some(rest)))
	torn := one
	torn.how = Torn
	expectRead(t, block, full, torn)
	two.places[1], two.end = len(full)+7, len(full)+7
	expectRead(t, block, joined(full, plainPiece(4, nil)), two)
	expectRead(t, block, joined(full, plainPiece(4, []byte{1})), one)
	expectRead(t, block, joined(full, plainPiece(3, []byte{1})), one)
	tooMuch := joined(full, plainPiece(4, []byte{1}))
	expectRead(t, block, tooMuch[:len(tooMuch)-1], torn)
}

// P7.2: one turned bit of a sum, of a length, of a kind, of the data.
func TestTurnedBits(t *testing.T) {
	file, places := plainFile(32, "abc", string(some(20)), "z")
	for bit := range 8 * len(file) {
		bent := bytes.Clone(file)
		bent[bit/8] ^= 1 << (bit % 8)
		want := plainRead(32, bent)
		whole, _ := slices.BinarySearch(places, bit/8+1)
		if want.how != Bent && want.how != Torn || len(want.records) != whole {
			t.Errorf("bit %d: the plain reading tells %d records, %d", bit, len(want.records), want.how)
		}
		if bit/8 < 4 || bit/8 >= 6 && bit/8 < 10 {
			expectHow(t, "a turned bit of a sum, a kind or data", 32, bent, Bent)
		}
		expectRead(t, 32, bent, want)
	}
}

// P7.2: which of two faults of one piece is told.
func TestWhichFaultIsTold(t *testing.T) {
	wrong := func(kind byte, data []byte) []byte {
		b := plainPiece(kind, data)
		b[0] ^= 1
		return b
	}
	inRecord := plainPiece(2, []byte("b"))
	long := plainPiece(1, some(26))
	for _, c := range []struct {
		what string
		file []byte
		how  int
	}{
		{"a kind that is none and data that end", plainPiece(5, some(9))[:15], Bent},
		{"a kind that is none and another sum", wrong(0, some(9)), Bent},
		{"a length beyond the block and data that end", long[:20], Bent},
		{"a length beyond the block, of which the seven bytes end", long[:6], Torn},
		{"data that end and another sum", wrong(1, some(9))[:15], Torn},
		{"no data and another sum", wrong(1, some(9))[:7], Torn},
		{"data that end and a kind outside of a record", plainPiece(3, some(9))[:15], Torn},
		{"data that end and the last kind outside of a record", plainPiece(4, some(9))[:15], Torn},
		{"data that end and a kind in the midst of a record", joined(inRecord, plainPiece(1, some(9))[:15]), Torn},
		{"data that end and the first kind in the midst of a record", joined(inRecord, plainPiece(2, some(9))[:15]), Torn},
		{"a kind outside of a record and another sum", wrong(3, nil), Bent},
		{"a kind in the midst of a record and another sum", joined(inRecord, wrong(1, nil)), Bent},
		{"a piece of a record and another sum", joined(inRecord, wrong(4, nil)), Bent},
	} {
		expectHow(t, c.what, 32, c.file, c.how)
	}
}

// P7.2: files of any bytes, and files that were written and then bent, cut or mixed.
func TestReadOfAnyFile(t *testing.T) {
	chance := rand.New(rand.NewSource(72))
	for range 20000 {
		block := 32 + chance.Intn(10)
		var file []byte
		for range chance.Intn(12) {
			if room := block - len(file)%block; room < 7 {
				file = append(file, make([]byte, room)...)
			}
			most := block - len(file)%block - 7
			kind := byte(1 + chance.Intn(4))
			file = append(file, plainPiece(kind, randomBytes(chance, chance.Intn(most+1)))...)
		}
		switch chance.Intn(4) {
		case 0:
			if len(file) > 0 {
				file[chance.Intn(len(file))] ^= 1 << chance.Intn(8)
			}
		case 1:
			file = file[:chance.Intn(len(file)+1)]
		case 2:
			file = append(file, randomBytes(chance, chance.Intn(20))...)
		}
		expectRead(t, block, file, plainRead(block, file))
	}
	for range 2000 {
		file := randomBytes(chance, chance.Intn(80))
		expectRead(t, 32, file, plainRead(32, file))
	}
}

// P7.3: All that is left early, and that is gone through again, or twice at once.
func TestAllLeftEarly(t *testing.T) {
	records := strings.Split("a,b,c,d,e", ",")
	file, places := plainFile(32, records...)
	all := All(32, file)
	for leave := range len(records) {
		var got []string
		for behind, record := range all {
			if behind != places[len(got)] {
				t.Errorf("place %d, want %d", behind, places[len(got)])
			}
			got = append(got, string(record))
			if len(got) > leave {
				break
			}
		}
		if !slices.Equal(got, records[:leave+1]) {
			t.Errorf("left behind %d: %q", leave, got)
		}
	}
	pairs := 0
	for range all {
		for range all {
			pairs++
		}
	}
	if pairs != len(records)*len(records) {
		t.Errorf("%d pairs of records", pairs)
	}
	calls := 0
	All(32, file)(func(int, []byte) bool { calls++; return false })
	if calls != 1 {
		t.Errorf("%d records behind a no", calls)
	}
}

// gathered are the records that an iterator tells.
func gathered(all iter.Seq2[int, []byte]) (records [][]byte) {
	for _, record := range all {
		records = append(records, record)
	}
	return records
}

// wipe fills a list and its spare room.
func wipe(b []byte) {
	b = b[:cap(b)]
	for i := range b {
		b[i] = 0xee
	}
}

// Rules 4 and 8: files stay as they were, and nothing behind their length is read; each record is new memory.
func TestReadSharesNothing(t *testing.T) {
	want := []string{"abc", string(some(40)), "", "xyz"}
	file, _ := plainFile(32, want...)
	room := joined(file, plainPiece(1, []byte("behind")))
	before := bytes.Clone(room)
	for i := range want {
		read, _, _, _ := Read(32, room[:len(file)])
		all := gathered(All(32, room[:len(file)]))
		for _, records := range [][][]byte{read, all} {
			expectRecords(t, records, want)
			wipe(records[i])
			others := slices.Concat(records[:i], records[i+1:])
			expectRecords(t, others, slices.Concat(want[:i], want[i+1:]))
		}
	}
	if !bytes.Equal(room, before) {
		t.Error("the file was changed")
	}
	all := All(32, room[:len(file)])
	clear(room)
	for range 2 {
		records := gathered(all)
		expectRecords(t, records, want)
		for _, record := range records {
			wipe(record)
		}
	}
}
