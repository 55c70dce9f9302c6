package names

import (
	"fmt"
	"regexp"
	"strings"

	"moraine/api"
)

// plainRune tells the rune whose UTF-8 form bytes begin with, by the arithmetic of its forms, and how long that is; 0: a stray byte.
func plainRune(s string) (number, length int) {
	for _, form := range []struct{ length, lead, bits, least int }{{1, 0x00, 7, 0}, {2, 0xc0, 5, 0x80}, {3, 0xe0, 4, 0x800}, {4, 0xf0, 3, 0x10000}} {
		if len(s) < form.length || int(s[0])>>form.bits != form.lead>>form.bits {
			continue
		}
		number, whole := int(s[0])-form.lead, true
		for i := 1; i < form.length; i++ {
			whole = whole && s[i]>>6 == 2
			number = number*64 + int(s[i])%64
		}
		if whole && number >= form.least && number <= 0x10ffff && (number < 0xd800 || number > 0xdfff) {
			return number, form.length
		}
	}
	return 0, 0
}

// plainPieces tells the pieces of some bytes, and of each the rune that it is, or -1.
func plainPieces(s string) (pieces []string, runes []int) {
	for s != "" {
		number, length := plainRune(s)
		if length == 0 {
			number, length = -1, 1
		}
		pieces, runes = append(pieces, s[:length]), append(runes, number)
		s = s[length:]
	}
	return pieces, runes
}

// plainWritten tells how a piece is written.
func plainWritten(piece string, number int) string {
	switch {
	case number == 10:
		return `\n`
	case number == 9:
		return `\t`
	case number == 32:
		return `\s`
	case number == 34:
		return `\"`
	case number == 92:
		return `\\`
	case number < 32 || number >= 127 && number <= 160:
		out := ""
		for _, b := range []byte(piece) {
			out += fmt.Sprintf(`\x%02x`, b)
		}
		return out
	}
	return piece
}

func plainQuote(s string) string {
	var out strings.Builder
	out.WriteByte('"')
	pieces, runes := plainPieces(s)
	for i := range pieces {
		out.WriteString(plainWritten(pieces[i], runes[i]))
	}
	out.WriteByte('"')
	return out.String()
}

var plainEscape = regexp.MustCompile(`^\\(?:x[0-9a-f][0-9a-f]|[nts"\\])`)

func plainUnquote(s string) (string, int, api.Errno) {
	if s == "" || s[0] != '"' {
		return "", 0, api.ErrQuote
	}
	text := ""
	for at := 1; ; {
		if at == len(s) {
			return "", at, api.ErrQuote
		}
		if s[at] == '"' {
			if at+1 < len(s) {
				return "", at + 1, api.ErrQuote
			}
			break
		}
		if written := plainEscape.FindString(s[at:]); written != "" {
			switch written[1] {
			case 'n':
				text += "\n"
			case 't':
				text += "\t"
			case 's':
				text += " "
			case 'x':
				var b byte
				fmt.Sscanf(written[2:], "%x", &b)
				text += string([]byte{b})
			default:
				text += written[1:]
			}
			at += len(written)
			continue
		}
		number, length := plainRune(s[at:])
		if length == 0 || plainWritten(s[at:at+length], number) != s[at:at+length] {
			return "", at, api.ErrQuote
		}
		text += s[at : at+length]
		at += length
	}
	if plainQuote(text) != s {
		return "", 0, api.ErrQuote
	}
	return text, 0, api.OK
}

var plainBare = regexp.MustCompile(`^[a-z0-9._-]+$`)

func plainWord(s string) string {
	if plainBare.MatchString(s) && !strings.Contains(s, "\n") {
		return s
	}
	return plainQuote(s)
}

func plainUnword(s string) (string, int, api.Errno) {
	if strings.HasPrefix(s, `"`) {
		return plainUnquote(s)
	}
	for at := range len(s) {
		if !plainBare.MatchString(s[at : at+1]) {
			return "", at, api.ErrQuote
		}
	}
	if s == "" {
		return "", 0, api.ErrQuote
	}
	return s, 0, api.OK
}

// plainSplit goes byte by byte; all faults are gathered, and which is told is asked at the end.
func plainSplit(line string) ([]string, int, api.Errno) {
	var words []string
	bad, open := len(line), -1
	for at := 0; at < len(line); {
		if line[at] == ' ' {
			at++
			continue
		}
		begin, closed := at, false
		if line[begin] == '"' {
			at++
			for at < len(line) && line[at] != '"' {
				if line[at] == '\\' {
					at++
				}
				at++
			}
			if closed = at < len(line); !closed {
				open = begin
				break
			}
			at++
		} else {
			for at < len(line) && line[at] != ' ' {
				at++
			}
		}
		words = append(words, line[begin:at])
		if closed && at < len(line) && line[at] != ' ' {
			bad = min(bad, at)
		}
	}
	for at, b := range []byte(line) {
		if b < 32 || b == 127 {
			bad = min(bad, at)
		}
	}
	if bad < len(line) {
		return nil, bad, api.ErrQuote
	}
	if open >= 0 {
		return nil, open, api.ErrQuote
	}
	return words, 0, api.OK
}

// plainName tells a name by its promise, the number's digits by another way than the package's own.
func plainName(kind, number int) (string, api.Errno) {
	if kind == 4 && number == 0 {
		return "CURRENT", api.OK
	}
	if number < 1 || number > 1<<31-1 {
		return "", api.ErrName
	}
	switch kind {
	case 1:
		return fmt.Sprintf("%06d.log", number), api.OK
	case 2:
		return fmt.Sprintf("%06d.tab", number), api.OK
	case 3:
		return fmt.Sprintf("MANIFEST-%06d", number), api.OK
	case 5:
		return fmt.Sprintf("%06d.tmp", number), api.OK
	}
	return "", api.ErrName
}
