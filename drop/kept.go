package drop

import (
	"moraine/api"
	"moraine/ikey"
)

// keptEntries tells the entries that must be kept, in their order. Of the tombs each one is valid.
func keptEntries(l []api.Entry, tombs []api.Tomb, s stripes, below []api.File) []api.Entry {
	var kept []api.Entry
	sorted := ikey.Sorted(l)
entries:
	for i, x := range sorted {
		stripe := s.of(x.Seq)
		if s.isLast(stripe) {
			kept = append(kept, x)
			continue
		}
		// The entries of one key and stripe lie side by side: if any comes ahead, then the one right ahead is such.
		if i > 0 && sorted[i-1].Key == x.Key && s.of(sorted[i-1].Seq) == stripe {
			continue
		}
		// Numbers of the stripe 0 are the least: whatever else a deletion could hide lies below.
		if stripe == 0 && x.Kind == api.KindDelete && !Bears(below, x.Key) {
			continue
		}
		for _, t := range tombs {
			if hides(t, x) && s.of(t.Seq) == stripe {
				continue entries
			}
		}
		kept = append(kept, x)
	}
	return kept
}

// hides tells whether a tomb hides an entry from all that see both.
func hides(t api.Tomb, x api.Entry) bool {
	return t.Seq > x.Seq && t.Begin <= x.Key && x.Key < t.End
}

// keptTombs tells those of valid tombs that must be kept, in their order.
func keptTombs(tombs []api.Tomb, s stripes, below []api.File) []api.Tomb {
	var kept []api.Tomb
	for _, t := range tombs {
		stripe := s.of(t.Seq)
		if s.isLast(stripe) || stripe > 0 || isOverlapped(t, below) {
			kept = append(kept, t)
		}
	}
	return kept
}

// isOverlapped tells whether a file below may have what a tomb hides.
func isOverlapped(t api.Tomb, below []api.File) bool {
	for _, f := range below {
		if f.Least < t.End && t.Begin < f.Limit {
			return true
		}
	}
	return false
}
