package edit

import (
	"math/rand"
	"slices"
	"strings"
	"testing"

	"moraine/api"
)

func expectNoEdit(t *testing.T, b string) {
	t.Helper()
	got, e := Decode([]byte(b))
	expectNone(t, "Decode of "+brief([]byte(b)), got, e, api.ErrEdit)
}

// P15.2, examples 1 and 2: bytes by hand.
func TestEncode(t *testing.T) {
	for _, x := range []struct {
		e    api.Edit
		want string
	}{
		{api.Edit{}, ""},
		{api.Edit{Log: 3, Gone: []api.Place{gone(1, 7)}}, "\x01\x03\x04\x01\x07"},
		{api.Edit{Come: []api.Added{{Level: 0, File: api.File{Number: 2, Size: 10, Least: "a", Limit: "b", Low: 1, High: 1}}}}, "\x05\x00\x02\x0a\x01a\x01b\x01\x01"},
		{api.Edit{Log: 1}, "\x01\x01"},
		{api.Edit{Next: 300}, "\x02\xac\x02"},
		{api.Edit{Seq: api.MaxSeq}, "\x03\xff\xff\xff\xff\xff\xff\xff\x7f"},
		{api.Edit{Log: api.MaxNumber, Next: 2, Seq: 1}, "\x01\xff\xff\xff\xff\x07\x02\x02\x03\x01"},
		{api.Edit{Gone: []api.Place{gone(6, 9), gone(0, 128)}}, "\x04\x06\x09\x04\x00\x80\x01"},
		{full(), "\x01\xac\x02\x02\x11\x03\x80\x80\x80\x80\x80\x20\x04\x02\x09\x04\x00\x80\x01" +
			"\x05\x03\x07\x80\x20\x02k\x00\x03k\xff\xfe\x82\x01\x80\x80\x40" + "\x05\x00\x06\x01\x01\x00\x02\x00\x00\x02\x03"},
		{api.Edit{Come: []api.Added{{Level: 1, File: api.File{Number: 3, Size: api.MaxQuota, Least: strings.Repeat("k", 128), Limit: "l", Low: 1, High: 2}}}},
			"\x05\x01\x03\x80\x80\x80\x80\x01\x80\x01" + strings.Repeat("k", 128) + "\x01l\x01\x02"},
	} {
		b, e := Encode(x.e)
		if e != api.OK || string(b) != x.want {
			t.Errorf("Encode(%s) = % x, error %d; want % x", brief(x.e), b, int(e), x.want)
		}
		got, e := Decode([]byte(x.want))
		if e != api.OK || !same(got, x.e) {
			t.Errorf("Decode(% x) = %+v, error %d", x.want, got, int(e))
		}
		if string(plainBytes(x.e)) != x.want {
			t.Errorf("the plain bytes of %s are % x", brief(x.e), plainBytes(x.e))
		}
	}
	if got, e := Decode(nil); e != api.OK || !same(got, api.Edit{}) {
		t.Errorf("Decode of no bytes: %+v, error %d", got, int(e))
	}
}

// P15.2: tags that are none, ahead of all, between and behind.
func TestDecodeOfTags(t *testing.T) {
	whole := plainThings(full())
	for tag := range 256 {
		if tag >= 1 && tag <= 5 {
			continue
		}
		for at := range len(whole) + 1 {
			thing := []byte{byte(tag)}
			for _, more := range []string{"", "\x01", "\x00\x02", "\x00\x02\x0a\x01a\x01b\x01\x01"} {
				expectNoEdit(t, string(slices.Concat(slices.Insert(slices.Clone(whole), at, append(thing, more...))...)))
			}
		}
	}
	for tag := range 256 {
		expectNoEdit(t, string([]byte{byte(tag)}))
	}
}

// P15.2: things in each order: that of the tags alone is right, and of what goes and comes each is another edit.
func TestDecodeOfOrders(t *testing.T) {
	expectNoEdit(t, "\x04\x01\x07\x01\x03")
	e := full()
	things := plainThings(e)
	right := 0
	var try func(ahead [][]byte, left [][]byte)
	try = func(ahead, left [][]byte) {
		if len(left) == 0 {
			rising := slices.IsSortedFunc(ahead, func(a, b []byte) int { return int(a[0]) - int(b[0]) })
			b := slices.Concat(ahead...)
			got, err := Decode(b)
			if rising != (err == api.OK) || rising && string(plainBytes(got)) != string(b) {
				t.Fatalf("Decode(% x) = %+v, error %d", b, got, int(err))
			}
			if rising {
				right++
			} else {
				expectNone(t, "another order", got, err, api.ErrEdit)
			}
		}
		for i := range left {
			try(append(slices.Clone(ahead), left[i]), slices.Delete(slices.Clone(left), i, i+1))
		}
	}
	try(nil, things)
	if right != 4 {
		t.Errorf("%d orders of %d things are right", right, len(things))
	}
}

// P15.2: what stands there twice, alike or not, side by side or not.
func TestDecodeOfTwice(t *testing.T) {
	things := plainThings(full())
	for i, thing := range things {
		for at := range len(things) + 1 {
			expectNoEdit(t, string(slices.Concat(slices.Insert(slices.Clone(things), at, thing)...)))
		}
		if i < 3 {
			expectNoEdit(t, string(slices.Concat(thing, thing)))
			expectNoEdit(t, string(slices.Concat(thing, plainSaid(thing[0], 9))))
			expectNoEdit(t, string(slices.Concat(plainSaid(thing[0], 9), thing)))
		}
	}
}

// P15.2: a Log, Next or Seq that is said to be 0.
func TestDecodeOfNought(t *testing.T) {
	for tag := 1; tag <= 3; tag++ {
		nought := string(plainSaid(byte(tag), 0))
		for _, b := range []string{nought, nought + nought, nought + string(plainSaid(byte(tag), 7)), string(plainSaid(byte(tag), 7)) + nought, nought + "\x04\x01\x07"} {
			expectNoEdit(t, b)
		}
	}
	expectNoEdit(t, "\x01\x03\x02\x00")
	expectNoEdit(t, "\x01\x03\x03\x00\x04\x01\x07")
}

// P15.2: a varint in each place that is longer than it need be, has no end, or is greater than any number may be.
func TestDecodeOfVarints(t *testing.T) {
	for _, fields := range [][]string{{"\x01", "\x03"}, {"\x02", "\x03"}, {"\x03", "\x03"}, {"\x04", "\x01", "\x07"}, {"\x05", "\x00", "\x02", "\x0a", "\x01a", "\x01b", "\x01", "\x01"}} {
		if _, e := Decode([]byte(strings.Join(fields, ""))); e != api.OK {
			t.Fatalf("%q: error %d", fields, int(e))
		}
		for i := 1; i < len(fields); i++ {
			first, rest := fields[i][0], fields[i][1:]
			wrong := []string{
				"\x80", "\xff", "\x80\x00", strings.Repeat("\xff", 9), strings.Repeat("\x80", 20), strings.Repeat("\xff", 9) + "\x01", strings.Repeat("\xff", 9) + "\x02", strings.Repeat("\x80", 9) + "\x01",
				string([]byte{first | 128, 0}), string([]byte{first | 128, 128, 0}), string([]byte{first | 128, 128, 128, 128, 128, 128, 128, 128, 128, 0}),
				// 2^64 more than what stands there.
				string([]byte{first | 128, 128, 128, 128, 128, 128, 128, 128, 128, 2}),
			}
			// 2^32 more, which has the same lowest bits. A Seq and a High may be so great.
			if fields[0] != "\x03" && i != 7 {
				wrong = append(wrong, string([]byte{first | 128, 128, 128, 128, 16}))
			}
			for _, w := range wrong {
				changed := slices.Clone(fields)
				changed[i] = w + rest
				expectNoEdit(t, strings.Join(changed, ""))
				expectNoEdit(t, strings.Join(changed[:i+1], ""))
			}
		}
	}
}

// P15.2: texts whose lengths reach behind the bytes, by one and by far.
func TestDecodeOfTexts(t *testing.T) {
	for _, length := range []string{"\x05", "\x06", "\x7f", "\x80\x08", "\x81\x08", "\xff\xff\xff\xff\x07", "\xff\xff\xff\xff\xff\xff\xff\xff\x7f", "\xff\xff\xff\xff\xff\xff\xff\xff\xff\x01"} {
		expectNoEdit(t, "\x05\x00\x02\x0a"+length+"a\x01b\x01")
		expectNoEdit(t, "\x05\x00\x02\x0a\x01a"+length+"b\x01\x01")
		expectNoEdit(t, "\x05\x00\x02\x0a\x01a"+length)
		expectNoEdit(t, "\x05\x00\x02\x0a"+length)
	}
	expectNoEdit(t, "\x05\x00\x02\x0a\x00\x01b\x01\x01")
	expectNoEdit(t, "\x05\x00\x02\x0a\x01a\x00\x01\x01")
	expectNoEdit(t, "\x05\x00\x02\x0a\x01a\x01a\x01\x01")
	expectNoEdit(t, "\x05\x00\x02\x0a\x01b\x01a\x01\x01")
}

// P15.2: bytes that are cut off at each place, and bytes behind the end. Only between two things is what stands ahead an edit.
func TestDecodeCutOff(t *testing.T) {
	things := plainThings(full())
	b := slices.Concat(things...)
	ends := map[int]int{0: 0}
	for i := range things {
		ends[len(slices.Concat(things[:i+1]...))] = i + 1
	}
	for at := range len(b) + 1 {
		n, ok := ends[at]
		if !ok {
			expectNoEdit(t, string(b[:at]))
			continue
		}
		got, e := Decode(b[:at])
		if e != api.OK || string(plainBytes(got)) != string(slices.Concat(things[:n]...)) {
			t.Errorf("Decode(% x) = %+v, error %d", b[:at], got, int(e))
		}
	}
	for c := range 256 {
		expectNoEdit(t, string(b)+string([]byte{byte(c)}))
		expectNoEdit(t, "\x01\x03"+string([]byte{byte(c)}))
	}
}

// P15.2: each byte of an edit's changed in each way: what is still read has just these bytes.
func TestDecodeOfChanged(t *testing.T) {
	b := plainBytes(full())
	for at := range b {
		for c := range 256 {
			changed := slices.Clone(b)
			changed[at] = byte(c)
			expectOnlyForm(t, changed)
		}
	}
}

// P15.2: short bytes of all kinds.
func TestDecodeOfShort(t *testing.T) {
	few := []byte{0, 1, 2, 3, 4, 5, 6, 7, 127, 128, 129, 255}
	var try func(b []byte, left int)
	try = func(b []byte, left int) {
		expectOnlyForm(t, b)
		if left == 0 {
			return
		}
		for _, c := range few {
			try(append(slices.Clone(b), c), left-1)
		}
	}
	try(nil, 4)
}

// expectOnlyForm expects bytes to be no edit, or to be the very bytes of a valid one.
func expectOnlyForm(t *testing.T, b []byte) {
	t.Helper()
	got, e := Decode(b)
	if e != api.OK {
		expectNone(t, "Decode of "+brief(b), got, e, api.ErrEdit)
		return
	}
	if !plainValid(got) || string(plainBytes(got)) != string(b) {
		t.Errorf("Decode(% x) = %+v, whose bytes are % x", b, got, plainBytes(got))
	}
}

// P15.1, P15.2, P15.5: edits of few Numbers, valid and not, against the plain words.
func TestBytesOfAny(t *testing.T) {
	chance := rand.New(rand.NewSource(152))
	valid := 0
	for range 20000 {
		e := anyEdit(chance, 3)
		if plainValid(e) {
			expectWhole(t, e)
			valid++
		} else {
			expectWrong(t, e)
		}
	}
	if valid < 5000 || valid > 15000 {
		t.Errorf("%d of 20000 are valid", valid)
	}
}

// Rule 4 and rule 8: what is handed in stays as it was, its spare room too, and is not kept; what is handed out is new memory; what lies behind a list's length is not read.
func TestMemoryOfBytes(t *testing.T) {
	for _, x := range []api.Edit{full(), {}, {Log: 1}, {Gone: full().Gone}, {Come: full().Come}} {
		want := plainBytes(x)
		e, unchanged := filled(x)
		if !Valid(e) || !unchanged() {
			t.Errorf("Valid of %s changes it, or asks its spare room", brief(x))
		}
		b, _ := Encode(e)
		other, _ := Encode(e)
		for i := range other[:cap(other)] {
			other[:cap(other)][i] = 200
		}
		if string(b) != string(want) || !unchanged() {
			t.Errorf("Encode: % x, want % x", b, want)
		}
		if spoil(e); string(b) != string(want) {
			t.Errorf("Encode keeps what was handed in: % x", b)
		}
		roomy := append(make([]byte, 0, len(want)+3), want...)
		copy(roomy[:cap(roomy)][len(want):], "\x04\x05\x09")
		got, _ := Decode(roomy)
		second, _ := Decode(roomy)
		if spoil(second); !same(got, x) || string(roomy) != string(want) || string(roomy[:cap(roomy)][len(want):]) != "\x04\x05\x09" {
			t.Errorf("Decode: %+v", got)
		}
		for i := range roomy {
			roomy[i] = 200
		}
		if !same(got, x) {
			t.Errorf("Decode keeps what was handed in: %+v", got)
		}
		_ = append(got.Gone, gone(6, 6))
		_ = append(got.Come, come(6, 6))
		if !same(got, x) {
			t.Errorf("what is put behind an answer changes it: %+v", got)
		}
	}
}
