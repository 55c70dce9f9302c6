package names

import (
	"strings"

	"moraine/api"
)

const blank = ' '

// Word tells a text bare, where it can be, else quoted.
func Word(s string) string {
	if s != "" && bareBytes(s) == len(s) {
		return s
	}
	return Quote(s)
}

// Unword reads it; at: where it is none.
func Unword(s string) (text string, at int, e api.Errno) {
	if strings.HasPrefix(s, string(quote)) {
		return Unquote(s)
	}
	bare := bareBytes(s)
	if s == "" || bare < len(s) {
		return "", bare, api.ErrQuote
	}
	return s, 0, api.OK
}

// bareBytes tells how many bytes there are ahead of the first that can't be bare.
func bareBytes(s string) int {
	for at, r := range s {
		if !canBeBare(r) {
			return at
		}
	}
	return len(s)
}

// canBeBare tells whether a rune can stand in a bare word.
func canBeBare(r rune) bool {
	return r >= 'a' && r <= 'z' || r >= '0' && r <= '9' || r == '.' || r == '_' || r == '-'
}

// Split reads a line's words; at: where it can't be parted.
func Split(line string) (words []string, at int, e api.Errno) {
	forbidden := forbiddenByte(line)
	for begin := 0; begin < len(line); {
		if line[begin] == blank {
			begin++
			continue
		}
		end, ends := wordEnd(line, begin)
		if !ends && forbidden == len(line) { // a byte at fault is told first, even one behind this word's quote
			return nil, begin, api.ErrQuote
		}
		if end < len(line) && line[end] != blank {
			return nil, min(end, forbidden), api.ErrQuote
		}
		words = append(words, line[begin:end])
		begin = end
	}
	if forbidden < len(line) {
		return nil, forbidden, api.ErrQuote
	}
	return words, 0, api.OK
}

// forbiddenByte tells the first byte that no line may have, or the line's length.
func forbiddenByte(line string) int {
	for at, r := range line {
		if r < blank || r == 127 {
			return at
		}
	}
	return len(line)
}

// wordEnd tells the place behind the word that begins there, and whether it ends: a quoted one may not.
func wordEnd(line string, begin int) (end int, ends bool) {
	word := line[begin:]
	if word[0] == quote {
		length, closed := quotedLength(word)
		return begin + length, closed
	}
	if length := strings.IndexByte(word, blank); length >= 0 {
		return begin + length, true
	}
	return len(line), true
}

// quotedLength tells how long the quoted word at the front of s is, and whether it is closed.
func quotedLength(s string) (length int, closed bool) {
	along := true // as if a \ stood ahead: the first quote doesn't close
	for at, r := range s {
		switch {
		case along:
			along = false
		case r == escape:
			along = true
		case r == quote:
			return at + 1, true
		}
	}
	return len(s), false
}
