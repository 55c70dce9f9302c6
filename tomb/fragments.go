package tomb

import (
	"cmp"
	"iter"
	"slices"
	"strings"

	"moraine/api"
)

// Fragments tells the pieces of keys that the same tombs cover, rising.
func Fragments(l []api.Tomb) []api.Fragment {
	var out []api.Fragment
	for f := range fragments(l) {
		out = append(out, f)
	}
	return out
}

// fragments goes through the pieces; the list is read as the range begins, not later.
func fragments(l []api.Tomb) iter.Seq[api.Fragment] {
	return func(yield func(api.Fragment) bool) {
		// A piece is held back until it is known not to go on.
		var held api.Fragment
		for f := range strips(l) {
			if f.Begin == held.End && slices.Equal(f.Seqs, held.Seqs) {
				held.End = f.End
				continue
			}
			if isPiece(held) && !yield(held) {
				return
			}
			held = f
		}
		if isPiece(held) {
			yield(held)
		}
	}
}

// strips goes through what is covered between two neighbouring bounds, each apart.
func strips(l []api.Tomb) iter.Seq[api.Fragment] {
	return func(yield func(api.Fragment) bool) {
		ahead := slices.SortedFunc(valid(l), compareBegins)
		var open []api.Tomb // those that cover the keys behind the last bound
		begin := ""
		for _, bound := range bounds(ahead) {
			if len(open) > 0 && !yield(api.Fragment{Begin: begin, End: bound, Seqs: numbers(open)}) {
				return
			}
			begin = bound
			open = slices.DeleteFunc(open, func(t api.Tomb) bool { return t.End == bound })
			for len(ahead) > 0 && ahead[0].Begin == bound {
				open = append(open, ahead[0])
				ahead = ahead[1:]
			}
		}
	}
}

// isPiece tells a piece from what stands for none.
func isPiece(f api.Fragment) bool {
	return len(f.Seqs) > 0
}

func compareBegins(a, b api.Tomb) int {
	return strings.Compare(a.Begin, b.Begin)
}

// bounds tells all Begins and Ends, rising, each once.
func bounds(l []api.Tomb) []string {
	out := make([]string, 0, 2*len(l))
	for _, t := range l {
		out = append(out, t.Begin, t.End)
	}
	return unlike(out)
}

// numbers tells the tombs' numbers, falling, each once.
func numbers(l []api.Tomb) []uint64 {
	out := make([]uint64, 0, len(l))
	for _, t := range l {
		out = append(out, t.Seq)
	}
	out = unlike(out)
	slices.Reverse(out)
	return out
}

// unlike brings a list into rising order, each value once, in the list's own memory.
func unlike[T cmp.Ordered](l []T) []T {
	slices.Sort(l)
	return slices.Compact(l)
}
