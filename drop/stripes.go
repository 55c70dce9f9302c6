package drop

import "slices"

// stripes are the numbers at which somebody looks, rising, each once: at each of them a stripe ends.
type stripes []uint64

func stripesBetween(snaps []uint64) stripes {
	s := slices.Clone(snaps)
	slices.Sort(s)
	return stripes(slices.Compact(s))
}

// of tells the stripe of a number: how many ends are below it.
func (s stripes) of(seq uint64) int {
	stripe, _ := slices.BinarySearch(s, seq)
	return stripe
}

// isLast tells whether a stripe is the one above all ends, which whoever comes later looks at.
func (s stripes) isLast(stripe int) bool { return stripe == len(s) }
