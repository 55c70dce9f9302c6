package tomb

import (
	"slices"
	"strconv"
	"strings"
	"testing"

	"moraine/api"
)

// What the chapter says, word by word and without the package's own functions: the tests hold the package against it.

const maxWord = 1<<64 - 1

func tombOf(begin, end string, seq uint64) api.Tomb {
	return api.Tomb{Begin: begin, End: end, Seq: seq}
}

// of makes a text of so many bytes.
func of(size int) string { return strings.Repeat("k", size) }

// notValid are tombs that are none, each for another reason; those that have room cover all keys in what they say.
func notValid() []api.Tomb {
	return []api.Tomb{
		{},
		tombOf("", "z", 6),
		tombOf("b", "", 6),
		tombOf("b", "b", 6),
		tombOf("c", "b", 6),
		tombOf("a\x00", "a", 6),
		tombOf(of(1025), "z", 6),
		tombOf("a", of(1026), 6),
		tombOf("a", "z", 1<<56),
		tombOf("a", "z", maxWord),
	}
}

func plainValid(t api.Tomb) bool {
	if len(t.Begin) == 0 || len(t.Begin) > 1024 {
		return false
	}
	return len(t.End) <= 1025 && strings.Compare(t.Begin, t.End) == -1 && t.Seq <= 72057594037927935
}

func plainCovers(t api.Tomb, key string) bool {
	return plainValid(t) && strings.Compare(key, t.Begin) >= 0 && strings.Compare(key, t.End) == -1
}

func plainCover(l []api.Tomb, key string, seq uint64) (uint64, bool) {
	var told []uint64
	for _, t := range l {
		if plainCovers(t, key) && t.Seq <= seq {
			told = append(told, t.Seq)
		}
	}
	if len(told) == 0 {
		return 0, false
	}
	return slices.Max(told), true
}

// plainBounds are all Begins and Ends of the valid ones, rising; some of them may be there twice.
func plainBounds(l []api.Tomb) []string {
	var out []string
	for _, t := range l {
		if plainValid(t) {
			out = append(out, t.Begin, t.End)
		}
	}
	slices.Sort(out)
	return out
}

// plainNumbers are those of the tombs that cover a key, falling, each once.
func plainNumbers(l []api.Tomb, key string) []uint64 {
	var out []uint64
	seq := uint64(maxWord)
	for {
		n, ok := plainCover(l, key, seq)
		if !ok {
			return out
		}
		out = append(out, n)
		if n == 0 {
			return out
		}
		seq = n - 1
	}
}

func plainFragments(l []api.Tomb) []api.Fragment {
	var out []api.Fragment
	all := plainBounds(l)
	for i := 1; i < len(all); i++ {
		seqs := plainNumbers(l, all[i-1])
		if all[i-1] == all[i] || len(seqs) == 0 {
			continue
		}
		last := len(out) - 1
		if last >= 0 && out[last].End == all[i-1] && slices.Equal(out[last].Seqs, seqs) {
			out[last].End = all[i]
			continue
		}
		out = append(out, api.Fragment{Begin: all[i-1], End: all[i], Seqs: seqs})
	}
	return out
}

func plainCut(l []api.Tomb, least, limit string) []api.Tomb {
	var out []api.Tomb
	for _, t := range l {
		begin, end := t.Begin, t.End
		if strings.Compare(least, begin) == 1 {
			begin = least
		}
		if limit != "" && strings.Compare(limit, end) == -1 {
			end = limit
		}
		if plainValid(t) && strings.Compare(begin, end) == -1 {
			out = append(out, tombOf(begin, end, t.Seq))
		}
	}
	return out
}

func plainSpan(l []api.Tomb) (least, limit string, ok bool) {
	var begins, ends []string
	for _, t := range l {
		if plainValid(t) {
			begins, ends = append(begins, t.Begin), append(ends, t.End)
		}
	}
	if len(begins) == 0 {
		return "", "", false
	}
	return slices.Min(begins), slices.Max(ends), true
}

func tombText(l []api.Tomb) string {
	text := ""
	for _, t := range l {
		text += "[" + strconv.Quote(t.Begin) + ", " + strconv.Quote(t.End) + ") " + strconv.FormatUint(t.Seq, 10) + "; "
	}
	return text
}

func fragmentText(l []api.Fragment) string {
	text := ""
	for _, f := range l {
		text += "[" + strconv.Quote(f.Begin) + ", " + strconv.Quote(f.End) + ")"
		for _, n := range f.Seqs {
			text += " " + strconv.FormatUint(n, 10)
		}
		text += "; "
	}
	return text
}

func sameTombs(t *testing.T, what string, got, want []api.Tomb) {
	t.Helper()
	if !slices.Equal(got, want) {
		t.Errorf("%s: %s, want %s", what, tombText(got), tombText(want))
	}
}

func sameFragments(t *testing.T, what string, got, want []api.Fragment) {
	t.Helper()
	if !slices.EqualFunc(got, want, func(a, b api.Fragment) bool {
		return a.Begin == b.Begin && a.End == b.End && slices.Equal(a.Seqs, b.Seqs)
	}) {
		t.Errorf("%s: %s, want %s", what, fragmentText(got), fragmentText(want))
	}
}

func covers(t *testing.T, l []api.Tomb, key string, seq, want uint64, there bool) {
	t.Helper()
	if n, ok := Cover(l, key, seq); n != want || ok != there {
		t.Errorf("Cover(%s, %q, %d) = %d, %v, want %d, %v", tombText(l), key, seq, n, ok, want, there)
	}
	if n, ok := NewSet(l).Cover(key, seq); n != want || ok != there {
		t.Errorf("Cover(%q, %d) of a set of %s = %d, %v, want %d, %v", key, seq, tombText(l), n, ok, want, there)
	}
}

// fragmentsAre asks for the fragments by each of the ways there are.
func fragmentsAre(t *testing.T, l []api.Tomb, want []api.Fragment) {
	t.Helper()
	sameFragments(t, "Fragments of "+tombText(l), Fragments(l), want)
	sameFragments(t, "All of a set of "+tombText(l), slices.Collect(NewSet(l).All()), want)
}
