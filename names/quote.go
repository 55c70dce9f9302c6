package names

import (
	"strings"
	"unicode/utf8"

	"moraine/api"
)

const (
	quote  = '"'
	escape = '\\'
	inHex  = 'x'
	hex    = "0123456789abcdef"
)

// letters has the runes that are written as \ and one letter.
var letters = [...]struct{ means, letter rune }{
	{'\n', 'n'},
	{'\t', 't'},
	{' ', 's'},
	{quote, quote},
	{escape, escape},
}

// Quote tells a text of any bytes as a quoted one.
func Quote(s string) string {
	out := make([]byte, 0, len(s)+2)
	out = append(out, quote)
	for at, r := range s {
		out = appendPiece(out, s[at:], r)
	}
	return string(append(out, quote))
}

// appendPiece writes the first piece of s, which a range over it told as r.
func appendPiece(out []byte, s string, r rune) []byte {
	if isStray(s, r) {
		return appendHex(out, s[:1])
	}
	for _, l := range letters {
		if l.means == r {
			return append(out, escape, byte(l.letter))
		}
	}
	form := s[:utf8.RuneLen(r)]
	if standsForItself(r) {
		return append(out, form...)
	}
	return appendHex(out, form)
}

// isStray tells whether s, whose first piece a range told as r, begins with a stray byte: a range tells it as the rune that can also be there itself.
func isStray(s string, r rune) bool {
	return r == utf8.RuneError && !strings.HasPrefix(s, string(utf8.RuneError))
}

// standsForItself tells whether a rune is written as its own bytes.
func standsForItself(r rune) bool {
	hidden := r <= ' ' || r >= 127 && r <= 160
	return !hidden && r != quote && r != escape
}

// appendHex writes bytes to the base 16, each with its own escape.
func appendHex(out []byte, form string) []byte {
	for at := range len(form) {
		b := form[at]
		out = append(out, escape, inHex, hex[b>>4], hex[b&15])
	}
	return out
}

// Unquote reads a quoted text; at: where it is none.
func Unquote(s string) (text string, at int, e api.Errno) {
	text, at, well := unwrite(s)
	if !well {
		return "", at, api.ErrQuote
	}
	if Quote(text) != s {
		return "", 0, api.ErrQuote
	}
	return text, 0, api.OK
}

// unwrite reads a text that is well formed, though it may not be the one that Quote writes; at: where it isn't.
func unwrite(s string) (text string, at int, well bool) {
	if !strings.HasPrefix(s, string(quote)) {
		return "", 0, false
	}
	out := make([]byte, 0, len(s))
	next := 1
	for at, r := range s {
		if at < next { // an escape took it along
			continue
		}
		if r == quote {
			return string(out), at + 1, at+1 == len(s)
		}
		var length int
		out, length = appendRead(out, s[at:], r)
		if length == 0 {
			return "", at, false
		}
		next = at + length
	}
	return "", len(s), false
}

// appendRead reads what is written at the front of s, which a range told as r, and how long that is; 0: nothing can be written so.
func appendRead(out []byte, s string, r rune) ([]byte, int) {
	if r == escape {
		return appendEscaped(out, s)
	}
	if isStray(s, r) || !standsForItself(r) {
		return out, 0
	}
	length := utf8.RuneLen(r)
	return append(out, s[:length]...), length
}

// appendEscaped reads the escape at the front of s, and how long it is; 0: it is none.
func appendEscaped(out []byte, s string) ([]byte, int) {
	if len(s) < 2 {
		return out, 0
	}
	for _, l := range letters {
		if byte(l.letter) == s[1] {
			return append(out, byte(l.means)), 2
		}
	}
	if s[1] != inHex || len(s) < 4 {
		return out, 0
	}
	high, low := strings.IndexByte(hex, s[2]), strings.IndexByte(hex, s[3])
	if high < 0 || low < 0 {
		return out, 0
	}
	return append(out, byte(high<<4|low)), 4
}

// Width tells how many pieces a text has.
func Width(s string) int {
	width := 0
	for range s {
		width++
	}
	return width
}
