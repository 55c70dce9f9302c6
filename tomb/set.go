package tomb

import (
	"iter"
	"slices"

	"moraine/api"
)

// Set holds tombs, in the order in which they came.
type Set struct {
	made  bool // false in a plain Set{} alone, which by that is told from one that NewSet gave
	tombs []api.Tomb
}

// NewSet makes a set of tombs.
func NewSet(l []api.Tomb) *Set {
	return &Set{made: true, tombs: slices.Collect(valid(l))}
}

// Add puts a tomb to the set.
func (s *Set) Add(t api.Tomb) api.Errno {
	if s == nil || !s.made {
		return api.ErrNil
	}
	if !Valid(t) {
		return api.ErrArg
	}
	s.tombs = append(s.tombs, t)
	return api.OK
}

// Cover is that of the tombs.
func (s *Set) Cover(key string, seq uint64) (uint64, bool) {
	return Cover(s.held(), key, seq)
}

// Len tells how many tombs were put.
func (s *Set) Len() int {
	return len(s.held())
}

// Tombs tells them, as they were put.
func (s *Set) Tombs() []api.Tomb {
	return slices.Clone(s.held())
}

// All goes through the fragments.
func (s *Set) All() iter.Seq[api.Fragment] {
	return func(yield func(api.Fragment) bool) {
		// The tombs are asked for here, not as All is called: those count that are there as the range begins.
		for f := range fragments(s.held()) {
			if !yield(f) {
				return
			}
		}
	}
}

// held are the set's tombs; none of a nil set, and a plain one takes none.
func (s *Set) held() []api.Tomb {
	if s == nil {
		return nil
	}
	return s.tombs
}
