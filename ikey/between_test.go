package ikey

import (
	"math/rand"
	"strings"
	"testing"
)

func TestBetween(t *testing.T) {
	for _, x := range []struct{ a, b, want string }{
		// The document's.
		{"abcd", "abzz", "abd"}, {"ab", "ab\x00", "ab"}, {"a\xff\xffx", "b", "a\xff\xffx"}, {"b", "a", "b"}, {"abc", "b", "ac"},
		// a is not below b.
		{"", "", ""}, {"a", "", "a"}, {"abc", "abc", "abc"}, {"abc", "ab", "abc"}, {"\xff\xff", "\xff", "\xff\xff"}, {"abcdef", "abcd", "abcdef"}, {"xyz", "abc", "xyz"},
		// a is the beginning of b, or has nothing that could be left out.
		{"", "a", ""}, {"", "\x00", ""}, {"a", "b", "a"}, {"a", "z", "a"}, {"a", "a\x00", "a"}, {"ab", "abzzz", "ab"}, {"abc", "abc\xff", "abc"},
		// The raised byte is b's: then b must be longer.
		{"abc", "b\x00", "b"}, {"abc", "ac", "abc"}, {"abc", "ac\x00", "ac"}, {"abcd", "ac", "abd"}, {"abcd", "ac\x00", "ac"}, {"a\x00\x00", "a\x01", "a\x00\x00"}, {"a\x00\x00\x00", "a\x01", "a\x00\x01"},
		// Bytes that can't be raised, and those that are no letters.
		{"a\xff", "b", "a\xff"}, {"a\xff\x00x", "b", "a\xff\x01"}, {"a\xffxy", "c", "b"}, {"a\xffxy", "b", "a\xffy"}, {"a\xff\xff\xff", "b", "a\xff\xff\xff"}, {"a\xff\xff\xff", "b\x00", "b"},
		{"\xfeab", "\xff", "\xfeb"}, {"\xfeab", "\xff\x00", "\xff"}, {"\xff\xff\x00a", "\xff\xff\xff", "\xff\xff\x01"}, {"\x00\x00\x00", "\x00\x00\x01", "\x00\x00\x00"}, {"\x00\x00\x00", "\x02", "\x01"},
		{"\x7fab", "\xff", "\x80"}, {"\xc2\xff\xff", "\xc4", "\xc3"},
	} {
		if got := Between(x.a, x.b); got != x.want {
			t.Errorf("Between(%q, %q) = %q, want %q", x.a, x.b, got, x.want)
		}
	}
}

// shortTexts are all texts of up to two bytes: shorter ones first, then by their order.
func shortTexts() []string {
	l := []string{""}
	for i := range 256 {
		l = append(l, string([]byte{byte(i)}))
	}
	for i := range 256 {
		for j := range 256 {
			l = append(l, string([]byte{byte(i), byte(j)}))
		}
	}
	return l
}

// TestBetweenIsTheFirstOfAll: of three bytes none that is not below a is ahead of a itself, so that the texts of two are all that is to be asked.
func TestBetweenIsTheFirstOfAll(t *testing.T) {
	short := shortTexts()
	first := func(a, b string) string {
		for _, s := range short {
			if a < b && s >= a && s < b {
				return s
			}
		}
		return a
	}
	pool := []string{""}
	for at := 0; at < len(pool); at++ {
		for _, c := range []string{"\x00", "a", "\xfe", "\xff"} {
			if len(pool[at]) < 3 {
				pool = append(pool, pool[at]+c)
			}
		}
	}
	for _, a := range pool {
		for _, b := range pool {
			if got, want := Between(a, b), first(a, b); got != want {
				t.Errorf("Between(%q, %q) = %q, want %q", a, b, got, want)
			}
		}
	}
}

func TestBetweenStaysWithin(t *testing.T) {
	chance := rand.New(rand.NewSource(1))
	text := func() string {
		b := make([]byte, chance.Intn(8))
		for i := range b {
			b[i] = []byte{0, 1, 'a', 'b', 0xfe, 0xff}[chance.Intn(6)]
		}
		return string(b)
	}
	for range 50000 {
		shared := text()
		a, b := shared+text(), shared+text()
		s := Between(a, b)
		if a >= b && s != a {
			t.Fatalf("Between(%q, %q) = %q", a, b, s)
		}
		if a < b && (s < a || s >= b || len(s) > len(a)) {
			t.Fatalf("Between(%q, %q) = %q", a, b, s)
		}
	}
}

// TestBetweenOfLongTexts would not end in time if a text were made at every place.
func TestBetweenOfLongTexts(t *testing.T) {
	const size = 1 << 22
	shared, raised := strings.Repeat("a", size), strings.Repeat("\xff", size)
	for _, x := range []struct{ a, b, want string }{
		{shared + "bcd", shared + "bcx", shared + "bcd"},
		{shared + "bcd", shared + "bx", shared + "bd"},
		{shared + "bcd", shared + "x", shared + "c"},
		{"a" + raised + "ab", "b", "a" + raised + "b"},
		{"a" + raised, "b", "a" + raised},
		{shared, shared + "a", shared},
		{shared + "a", shared, shared + "a"},
	} {
		if got := Between(x.a, x.b); got != x.want {
			t.Errorf("of %d and %d bytes: %d bytes, want %d", len(x.a), len(x.b), len(got), len(x.want))
		}
	}
}
