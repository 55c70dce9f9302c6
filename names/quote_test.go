package names

import (
	"math/rand"
	"slices"
	"strings"
	"testing"
	"unicode/utf8"

	"moraine/api"
)

// quoted holds Quote's and Unquote's answers of one text against each other, and what P6.9 says of them.
func quoted(t *testing.T, s, want string) {
	t.Helper()
	q := Quote(s)
	if q != want {
		t.Errorf("Quote(%q) = %s, want %s", s, q, want)
	}
	if text, at, e := Unquote(want); text != s || at != 0 || e != api.OK {
		t.Errorf("Unquote(%s) = %q, %d, %d, want %q", want, text, at, e, s)
	}
	if !utf8.ValidString(q) || strings.ContainsFunc(q, func(r rune) bool { return r <= 32 }) {
		t.Errorf("Quote(%q) = %q", s, q)
	}
}

func unquotable(t *testing.T, s string, want int) {
	t.Helper()
	if text, at, e := Unquote(s); text != "" || at != want || e != api.ErrQuote {
		t.Errorf("Unquote(%q) = %q, %d, %d, want at %d", s, text, at, e, want)
	}
}

// P6.5, the chapter's example 3
func TestQuoteExamples(t *testing.T) {
	quoted(t, "a b", `"a\sb"`)
	quoted(t, "\xc3\xa9\xff\x0a", "\"\xc3\xa9\\xff\\n\"")
	quoted(t, "", `""`)
	unquotable(t, `"a b"`, 2)
	unquotable(t, `"\xc3\xa9"`, 0)
	unquotable(t, `"a`, 2)
}

// P6.5: the edges of how pieces are written.
func TestPieces(t *testing.T) {
	for _, x := range [][2]string{
		{"\x00", `\x00`}, {"\x01", `\x01`}, {"\b", `\x08`}, {"\t", `\t`}, {"\n", `\n`}, {"\v", `\x0b`}, {"\r", `\x0d`}, {"\x1f", `\x1f`},
		{" ", `\s`}, {"!", `!`}, {`"`, `\"`}, {"#", "#"}, {"'", "'"}, {"[", "["}, {`\`, `\\`}, {"]", "]"}, {"n", "n"}, {"~", "~"}, {"\x7f", `\x7f`},
		{"\x80", `\x80`}, {"\xa0", `\xa0`}, {"\xff", `\xff`}, {"\xc2", `\xc2`},
		{"\u007f", `\x7f`}, {"\u0080", `\xc2\x80`}, {"\u0085", `\xc2\x85`}, {"\u009f", `\xc2\x9f`}, {"\u00a0", `\xc2\xa0`}, {"\u00a1", "\u00a1"}, {"\u00ad", "\u00ad"},
		{"\u00c0", "\u00c0"}, {"\u07ff", "\u07ff"}, {"\u0800", "\u0800"}, {"\u2028", "\u2028"}, {"\u3000", "\u3000"}, {"\ud7ff", "\ud7ff"}, {"\ue000", "\ue000"}, {"\ufeff", "\ufeff"},
		{"\ufffc", "\ufffc"}, {"\ufffd", "\ufffd"}, {"\ufffe", "\ufffe"}, {"\uffff", "\uffff"}, {"\U00010000", "\U00010000"}, {"\U0010ffff", "\U0010ffff"},
		{"\xef\xbf", `\xef\xbf`}, {"\xef\xbf\xbd\xbd", "\ufffd\\xbd"}, {"\xef\xef\xbf\xbd", "\\xef\ufffd"},
		{"\xc0\x80", `\xc0\x80`}, {"\xc1\xbf", `\xc1\xbf`}, {"\xe0\x9f\xbf", `\xe0\x9f\xbf`}, {"\xf0\x8f\xbf\xbf", `\xf0\x8f\xbf\xbf`},
		{"\xed\xa0\x80", `\xed\xa0\x80`}, {"\xed\xbf\xbf", `\xed\xbf\xbf`}, {"\xf4\x90\x80\x80", `\xf4\x90\x80\x80`}, {"\xf8\x88\x80\x80\x80", `\xf8\x88\x80\x80\x80`},
		{"\xe2\x82", `\xe2\x82`}, {"\xf0\x9f\x98", `\xf0\x9f\x98`}, {"\xf0\x9f\x98a", `\xf0\x9f\x98a`}, {"\xe2\x82\xc3\xa9", "\\xe2\\x82\u00e9"}, {"\xc3(", `\xc3(`}, {"\xc3\"", `\xc3\"`}, {"\xc3 ", `\xc3\s`}, {"\xc3\\", `\xc3\\`},
	} {
		quoted(t, x[0], `"`+x[1]+`"`)
		quoted(t, "a"+x[0]+"z", `"a`+x[1]+`z"`)
	}
	quoted(t, `\n`, `"\\n"`)
	quoted(t, `\x41`, `"\\x41"`)
	quoted(t, `"a"`, `"\"a\""`)
	quoted(t, `\\`, `"\\\\"`)
}

// P6.5: every byte and every rune, alone, against the words of the promise.
func TestEveryRune(t *testing.T) {
	for b := range 256 {
		s := string([]byte{byte(b)})
		quoted(t, s, plainQuote(s))
	}
	for number := range 0x110000 {
		form := string(rune(number))
		if got, length := plainRune(form); length != len(form) || got != number && (number < 0xd800 || number > 0xdfff) {
			t.Fatalf("the plain way reads %x as %x, %d", number, got, length)
		}
		if want := plainQuote(form); Quote(form) != want {
			t.Fatalf("Quote(%q) = %s, want %s", form, Quote(form), want)
		}
		if text, at, e := Unquote(Quote(form)); text != form || at != 0 || e != api.OK {
			t.Fatalf("Unquote(%s) = %q, %d, %d", Quote(form), text, at, e)
		}
	}
}

// P6.5 and P6.8: all of two bytes, and of more bytes at the edges of UTF-8, against the words of the promise.
func TestEveryForm(t *testing.T) {
	check := func(s string) {
		t.Helper()
		if q, want := Quote(s), plainQuote(s); q != want {
			t.Fatalf("Quote(%q) = %s, want %s", s, q, want)
		}
		pieces, _ := plainPieces(s)
		if Width(s) != len(pieces) {
			t.Fatalf("Width(%q) = %d, want %d", s, Width(s), len(pieces))
		}
		sameUnquote(t, `"`+s+`"`)
		sameUnquote(t, s)
	}
	for a := range 256 {
		for b := range 256 {
			check(string([]byte{byte(a), byte(b)}))
		}
	}
	edges := []byte{0, ' ', '"', '\\', 'a', 0x7f, 0x80, 0x8f, 0x90, 0x9f, 0xa0, 0xbf, 0xc0, 0xc1, 0xc2, 0xdf, 0xe0, 0xec, 0xed, 0xee, 0xef, 0xf0, 0xf1, 0xf3, 0xf4, 0xf5, 0xff}
	for _, a := range edges {
		for _, b := range edges {
			for _, c := range edges {
				check(string([]byte{a, b, c}))
				for _, d := range edges[5:12] {
					check(string([]byte{a, b, c, d}))
				}
			}
		}
	}
}

// sameUnquote holds Unquote's answer against the words of the promise.
func sameUnquote(t *testing.T, s string) {
	t.Helper()
	sameText(t, Unquote, plainUnquote, s)
}

func sameText(t *testing.T, read, plain func(string) (string, int, api.Errno), s string) {
	t.Helper()
	text, at, e := read(s)
	if wantText, wantAt, wantE := plain(s); text != wantText || at != wantAt || e != wantE {
		t.Fatalf("of %q: %q, %d, %d, want %q, %d, %d", s, text, at, e, wantText, wantAt, wantE)
	}
}

// P6.5: what is no quoted text, and where.
func TestUnquoteFaults(t *testing.T) {
	for _, x := range []struct {
		s  string
		at int
	}{
		{"", 0}, {"a", 0}, {` ""`, 0}, {`a"`, 0}, {`\"a"`, 0}, {"\xff", 0}, {"\u00e9", 0}, {`'a'`, 0},
		{`"`, 1}, {`"a`, 2}, {`"ab\"`, 5}, {"\"\u00e9", 3}, {`"\x41`, 5}, {`"\\`, 3},
		{`""a`, 2}, {`"" `, 2}, {`"""`, 2}, {`"a"b`, 3}, {`"a" "b"`, 3}, {`"a"` + "\xff", 3}, {`"a"\`, 3}, {`"\""x`, 4},
		{`"\`, 1}, {`"a\`, 2}, {`"\x`, 1}, {`"\x4`, 1}, {`"a\x4`, 2}, {`"\x"`, 1}, {`"\x4"`, 1}, {`"\x4"4`, 1}, {`"\\\`, 3},
		{`"\q"`, 1}, {`"a\q"`, 2}, {`"\r"`, 1}, {`"\a"`, 1}, {`"\0"`, 1}, {`"\X41"`, 1}, {`"\u0041"`, 1}, {`"\'"`, 1}, {`"\ "`, 1}, {`"\N"`, 1}, {"\"\\\n\"", 1}, {"\"\\\u00e9\"", 1}, {"\"\\\xff\"", 1},
		{`"\xFF"`, 1}, {`"\xfF"`, 1}, {`"\xg0"`, 1}, {`"\x0g"`, 1}, {`"\x/0"`, 1}, {`"\x:0"`, 1}, {"\"\\x`0\"", 1}, {`"\x 1"`, 1}, {`"\x-1"`, 1}, {`"\x+1"`, 1}, {"\"\\x\x000\"", 1}, {"\"\\x0\xff\"", 1},
		{`"a b"`, 2}, {"\"\t\"", 1}, {"\"\n\"", 1}, {"\"a\x00\"", 2}, {"\"a\x1f\"", 2}, {"\"a\x7f\"", 2}, {"\"a\xff\"", 2}, {"\"a\x80\"", 2}, {"\"a\xc3\"", 2}, {"\"a\xc3", 2},
		{"\"\u0080\"", 1}, {"\"\u0085\"", 1}, {"\"a\u00a0\"", 2}, {"\"\u00e9\u009f\"", 3}, {"\"\xc0\xa2\"", 1}, {"\"\xed\xa0\x80\"", 1}, {"\"a\xe2\x82\"", 2}, {"\"a\xf0\x9f\x98", 2},
		{`"\x41"`, 0}, {`"\x0a"`, 0}, {`"\x09"`, 0}, {`"\x20"`, 0}, {`"\x22"`, 0}, {`"\x5c"`, 0}, {`"\x7e"`, 0}, {`"\xe2\x82\xac"`, 0}, {`"a\xf0\x9f\x98\x80"`, 0}, {`"\xef\xbf\xbd"`, 0},
		{"\"\\x41\\q\"", 5}, {`"\x41`, 5}, {`"\x41"a`, 6}, // a later fault of form is told, not the escape that is none of Quote's
	} {
		unquotable(t, x.s, x.at)
	}
	quoted(t, "\xe2\x82", `"\xe2\x82"`)
	quoted(t, "\u0085", `"\xc2\x85"`)
	quoted(t, "\x1f", `"\x1f"`)
	quoted(t, "\xe2\x82(", `"\xe2\x82("`)
}

// P6.5: of all escapes of one byte just those are read that Quote writes.
func TestEveryEscape(t *testing.T) {
	const hex = "0123456789abcdefABCDEFgx"
	for _, a := range hex {
		for _, b := range hex {
			sameUnquote(t, `"\x`+string(a)+string(b)+`"`)
		}
	}
	for b := range 256 {
		sameUnquote(t, `"\`+string([]byte{byte(b)})+`"`)
		sameUnquote(t, `"\`+string([]byte{byte(b)}))
		sameUnquote(t, `"a\`+string([]byte{byte(b)})+`41"`)
	}
}

// texts are short texts of pieces that meet each other's edges.
func texts(parts []string, most int) []string {
	all, last := []string{""}, []string{""}
	for range most {
		var next []string
		for _, s := range last {
			for _, p := range parts {
				next = append(next, s+p)
			}
		}
		all, last = append(all, next...), next
	}
	slices.Sort(all)
	return slices.Compact(all)
}

// P6.9: unlike texts are quoted unlike, and there is just one text that Unquote takes for each.
func TestThereAndBackQuotes(t *testing.T) {
	seen := map[string]string{}
	for _, s := range texts([]string{"a", "x", "4", "1", " ", `"`, `\`, "\n", "\xc3", "\xa9", "\xc2", "\x80", "\xff"}, 4) {
		quoted(t, s, plainQuote(s))
		q := Quote(s)
		if other, there := seen[q]; there {
			t.Fatalf("%q and %q: %s", s, other, q)
		}
		seen[q] = s
	}
	for _, q := range texts([]string{`"`, `\`, "x", "n", "s", "4", "c", "3", "\xc3", "\xa9"}, 5) {
		sameUnquote(t, `"`+q+`"`)
		sameUnquote(t, `"`+q)
		sameUnquote(t, q)
	}
	for _, q := range texts([]string{`\xc3`, `\xa9`, `\xe2`, `\x82`, `\xac`, "a", "\u00e9", `\\`}, 5) {
		sameUnquote(t, `"`+q+`"`)
	}
}

// P6.5 and P6.9: any bytes.
func TestAnyBytes(t *testing.T) {
	r := rand.New(rand.NewSource(9))
	for range 20000 {
		s := anyText(r)
		quoted(t, s, plainQuote(s))
		sameUnquote(t, s)
		q := []byte(Quote(s))
		q[r.Intn(len(q))] = byte(r.Intn(256))
		sameUnquote(t, string(q))
		cut := r.Intn(len(q))
		sameUnquote(t, string(q[:cut]))
		sameUnquote(t, string(q[:cut])+string(q[r.Intn(len(q)):]))
	}
}

// anyText is a text of bytes, of runes and of what is special.
func anyText(r *rand.Rand) string {
	var b strings.Builder
	for range r.Intn(12) {
		switch r.Intn(4) {
		case 0:
			b.WriteByte(byte(r.Intn(256)))
		case 1:
			b.WriteRune(rune(r.Intn(0x110000) >> r.Intn(17)))
		case 2:
			const special = " \"\\xnts\n\t\x7f\x80\xa0\xc2"
			b.WriteByte(special[r.Intn(len(special))])
		default:
			b.WriteByte("abz019._-"[r.Intn(9)])
		}
	}
	return b.String()
}

// P6.5: a long text takes no more time than its length asks for.
func TestLongQuotes(t *testing.T) {
	for _, part := range []string{"a", " ", "\xff", "\u20ac", `\`} {
		s := strings.Repeat(part, 1<<20)
		if text, at, e := Unquote(Quote(s)); text != s || at != 0 || e != api.OK {
			t.Errorf("%q: %d bytes, %d, %d", part, len(text), at, e)
		}
		if Width(s) != 1<<20 {
			t.Errorf("%q: %d", part, Width(s))
		}
	}
}

// P6.8, the chapter's example 4
func TestWidth(t *testing.T) {
	for _, x := range []struct {
		s string
		n int
	}{
		{"", 0}, {"a", 1}, {"\x00", 1}, {"\u00e9", 1}, {"\u00e9\xff", 2}, {"\u20ac", 1}, {"\U0001f600", 1}, {"\U0010ffff", 1}, {"\ufffd", 1}, {"\xef\xbf", 2},
		{"\xff\xfe", 2}, {"\xed\xa0\x80", 3}, {"\xc0\x80", 2}, {"\xf4\x90\x80\x80", 4}, {"\xf0\x9f\x98", 3}, {"\xe2\x82\xc3\xa9", 3}, {"e\u0301", 2}, {"\r\n", 2}, {"\u0080\xa0", 2},
	} {
		if n := Width(x.s); n != x.n {
			t.Errorf("Width(%q) = %d, want %d", x.s, n, x.n)
		}
	}
}

// P6.11
func TestWidthBounds(t *testing.T) {
	all := texts([]string{"a", "\xc3", "\xa9", "\xe2", "\x82", "\xac", "\xf0", "\x9f"}, 3)
	for _, a := range all {
		if Width(a) > len(a) {
			t.Fatalf("Width(%q) = %d", a, Width(a))
		}
		for _, b := range all {
			pieces, _ := plainPieces(a + b)
			if n := Width(a + b); n != len(pieces) || n > Width(a)+Width(b) {
				t.Fatalf("Width(%q) = %d, of %q %d, of %q %d", a+b, n, a, Width(a), b, Width(b))
			}
		}
	}
	if Width("\xc3")+Width("\xa9") != 2 || Width("\xc3\xa9") != 1 {
		t.Error("a rune that was cut is not one again")
	}
}
