package names

import (
	"math/rand"
	"slices"
	"strings"
	"testing"
	"unicode/utf8"

	"moraine/api"
)

func worded(t *testing.T, s, want string) {
	t.Helper()
	if w := Word(s); w != want {
		t.Errorf("Word(%q) = %q, want %q", s, w, want)
	}
	if text, at, e := Unword(want); text != s || at != 0 || e != api.OK {
		t.Errorf("Unword(%q) = %q, %d, %d, want %q", want, text, at, e, s)
	}
}

func wordless(t *testing.T, s string, want int) {
	t.Helper()
	if text, at, e := Unword(s); text != "" || at != want || e != api.ErrQuote {
		t.Errorf("Unword(%q) = %q, %d, %d, want at %d", s, text, at, e, want)
	}
}

func split(t *testing.T, line string, want ...string) {
	t.Helper()
	if words, at, e := Split(line); !slices.Equal(words, want) || at != 0 || e != api.OK {
		t.Errorf("Split(%q) = %q, %d, %d, want %q", line, words, at, e, want)
	}
}

func unsplit(t *testing.T, line string, want int) {
	t.Helper()
	if words, at, e := Split(line); len(words) != 0 || at != want || e != api.ErrQuote {
		t.Errorf("Split(%q) = %q, %d, %d, want at %d", line, words, at, e, want)
	}
}

// P6.6 and P6.7, the chapter's example 4
func TestWordExamples(t *testing.T) {
	worded(t, "key-1", "key-1")
	worded(t, "", `""`)
	split(t, `put key-1 "a\sb"`, "put", "key-1", `"a\sb"`)
	unsplit(t, `a "b`, 2)
	unsplit(t, `"a"b`, 3)
}

// P6.6: which bytes are bare.
func TestBare(t *testing.T) {
	const bare = "abcdefghijklmnopqrstuvwxyz0123456789._-"
	worded(t, bare, bare)
	for b := range 256 {
		one := string([]byte{byte(b)})
		for _, s := range []string{one, "a" + one, one + "a", "0" + one + "z"} {
			if strings.Contains(bare, one) {
				worded(t, s, s)
				continue
			}
			worded(t, s, plainQuote(s))
			if at := strings.IndexByte(s, byte(b)); b != '"' || at > 0 {
				wordless(t, s, at)
			}
		}
	}
	worded(t, "\u00e9", "\"\u00e9\"")
	worded(t, "A", `"A"`)
	worded(t, "a b", `"a\sb"`)
}

// P6.6: what is no word, and where.
func TestUnwordFaults(t *testing.T) {
	for _, x := range []struct {
		s  string
		at int
	}{
		{"", 0}, {"A", 0}, {"aB", 1}, {"ab c", 2}, {" a", 0}, {"a ", 1}, {"a\n", 1}, {"abc\xff", 3}, {"ab\u00e9", 2}, {"\u00e9", 0}, {`a"`, 1}, {`a"b"`, 1}, {`\`, 0}, {"a/b", 1}, {"a,b", 1}, {"1:2", 1}, {"a`", 1}, {"z{", 1}, {"a\x00", 1},
		{`"`, 1}, {`"a`, 2}, {`"a b"`, 2}, {`"a"b`, 3}, {`"\q"`, 1}, {`"\x41"`, 0},
	} {
		wordless(t, x.s, x.at)
	}
	for _, s := range []string{`"a"`, `""`, `"key-1"`} { // Unquote's answers, though Word writes them bare
		text, at, e := Unword(s)
		if wantText, wantAt, wantE := plainUnquote(s); text != wantText || at != wantAt || e != wantE || e != api.OK {
			t.Errorf("Unword(%q) = %q, %d, %d", s, text, at, e)
		}
	}
}

// P6.6 and P6.9: Word and Unword against the words of the promise; unlike for unlike texts, well-formed, without a blank.
func TestThereAndBackWords(t *testing.T) {
	seen := map[string]string{}
	for _, s := range texts([]string{"a", "z", "0", "9", "-", "_", ".", "A", " ", `"`, `\`, "\n", "\xc3", "\xa9"}, 4) {
		w := Word(s)
		worded(t, s, plainWord(s))
		if !utf8.ValidString(w) || w == "" || strings.ContainsFunc(w, func(r rune) bool { return r <= 32 }) {
			t.Fatalf("Word(%q) = %q", s, w)
		}
		if other, there := seen[w]; there {
			t.Fatalf("%q and %q: %s", s, other, w)
		}
		seen[w] = s
		sameText(t, Unword, plainUnword, s)
	}
	r := rand.New(rand.NewSource(10))
	for range 20000 {
		s := anyText(r)
		worded(t, s, plainWord(s))
		sameText(t, Unword, plainUnword, s)
	}
}

// P6.7: words and what parts them.
func TestSplit(t *testing.T) {
	split(t, "")
	split(t, " ")
	split(t, "     ")
	split(t, "a", "a")
	split(t, " a", "a")
	split(t, "a  ", "a")
	split(t, "  a   b c ", "a", "b", "c")
	split(t, "A,b;/ \u00e9 \xff \u00a0 \u0085", "A,b;/", "\u00e9", "\xff", "\u00a0", "\u0085")
	split(t, `""`, `""`)
	split(t, ` "" ""  `, `""`, `""`)
	split(t, `"a b"`, `"a b"`)
	split(t, `"a  b" c`, `"a  b"`, "c")
	split(t, `c "a b"`, "c", `"a b"`)
	split(t, `a"b c"d e`, `a"b`, `c"d`, "e")
	split(t, `a"`, `a"`)
	split(t, `a\" b`, `a\"`, "b")
	split(t, `a\ b`, `a\`, "b")
	split(t, `\"a b"`, `\"a`, `b"`)
	split(t, `"a\"b" c`, `"a\"b"`, "c")
	split(t, `"a\"b c" d`, `"a\"b c"`, "d")
	split(t, `"\\" c`, `"\\"`, "c")
	split(t, `"\\\" c"`, `"\\\" c"`)
	split(t, `"\q\xzz" b`, `"\q\xzz"`, "b")
	split(t, "\"\\\u00e9\" \"\\\xff\" \"\xc3\"", "\"\\\u00e9\"", "\"\\\xff\"", "\"\xc3\"")
	split(t, `"\ " a`, `"\ "`, "a")
}

// P6.7: what can't be parted, and which of two faults is told.
func TestSplitFaults(t *testing.T) {
	for b := range 256 {
		one := string([]byte{byte(b)})
		if b >= 32 && b != 127 {
			if b != ' ' && b != '"' {
				split(t, one, one)
				split(t, "a"+one+" b", "a"+one, "b")
				unsplit(t, `"a"`+one, 3)
			}
			continue
		}
		unsplit(t, one, 0)
		unsplit(t, "a"+one, 1)
		unsplit(t, "a "+one+" b", 2)
		unsplit(t, "  "+one, 2)
		unsplit(t, `"`+one+`"`, 1)
		unsplit(t, `"\`+one+`"`, 2)
		unsplit(t, `"a"`+one, 3)
		unsplit(t, `"a" `+one, 4)
		unsplit(t, `"a`+one, 2)       // ahead of: no end
		unsplit(t, `a "b c`+one, 6)   // though the word begins ahead of it
		unsplit(t, `"a"b`+one, 3)     // the one behind the quote is the first
		unsplit(t, one+` "a"b`, 0)    // and here the other one
		unsplit(t, `a `+one+` "b`, 2) // ahead of a word without an end
		unsplit(t, `"a"b "c`+one, 3)
		unsplit(t, one+one, 0)
	}
	for _, x := range []struct {
		line string
		at   int
	}{
		{`"`, 0}, {` "`, 1}, {`"a`, 0}, {`a "`, 2}, {`a  "b c`, 3}, {`"\"`, 0}, {`a "\`, 2}, {`"a\\\"`, 0}, {`"a" "`, 4}, {`"a" "b" "c`, 8}, {"\"\\\u00e9", 0},
		{`"""`, 2}, {`""""`, 2}, {`"a""b"`, 3}, {`""\`, 2}, {"\"\"\u00e9", 2}, {"\"\"\xff", 2}, {`"a"b "c"d`, 3}, {`"a"b "c`, 3}, {`x "a"b "c`, 5}, {`"\""x`, 4}, {`a "b"c"`, 5},
	} {
		unsplit(t, x.line, x.at)
	}
}

// P6.7: lines of what is special, against the words of the promise.
func TestEveryLine(t *testing.T) {
	for _, line := range texts([]string{"a", " ", `"`, `\`, "\n", "\xc3"}, 7) {
		sameSplit(t, line)
	}
	r := rand.New(rand.NewSource(11))
	for range 20000 {
		sameSplit(t, anyText(r))
		sameSplit(t, Word(anyText(r))+" "+anyText(r)+Word(anyText(r)))
	}
}

func sameSplit(t *testing.T, line string) {
	t.Helper()
	words, at, e := Split(line)
	if wantWords, wantAt, wantE := plainSplit(line); !slices.Equal(words, wantWords) || at != wantAt || e != wantE {
		t.Fatalf("Split(%q) = %q, %d, %d, want %q, %d, %d", line, words, at, e, wantWords, wantAt, wantE)
	}
}

// P6.10
func TestSplitOfWords(t *testing.T) {
	r := rand.New(rand.NewSource(12))
	for range 20000 {
		var words []string
		var line strings.Builder
		line.WriteString(strings.Repeat(" ", r.Intn(2)))
		for range r.Intn(6) {
			words = append(words, Word(anyText(r)))
			line.WriteString(words[len(words)-1] + strings.Repeat(" ", 1+r.Intn(3)))
		}
		split(t, line.String(), words...)
		split(t, strings.Join(words, " "), words...)
	}
	var every []string
	for b := range 256 {
		every = append(every, Word(string([]byte{byte(b)})), Word(string([]byte{byte(b), '"', byte(b)})))
	}
	split(t, strings.Join(every, " "), every...)
}

// Rule 4: each answer is new memory.
func TestSplitMemory(t *testing.T) {
	const line = `a "b" c`
	first, _, _ := Split(line)
	for i := range first[:cap(first)] {
		first[:cap(first)][i] = "written"
	}
	split(t, line, "a", `"b"`, "c")
}

// P6.7: a long line takes no more time than its length asks for.
func TestLongLines(t *testing.T) {
	for _, part := range []string{"a ", `"\"" `, "\u20ac "} {
		line := strings.Repeat(part, 1<<19)
		words, at, e := Split(line)
		if len(words) != 1<<19 || at != 0 || e != api.OK {
			t.Errorf("%q: %d words, %d, %d", part, len(words), at, e)
		}
		unsplit(t, line+`"`, len(line))
	}
}
