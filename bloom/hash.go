package bloom

import (
	"iter"
	"math/bits"
)

const (
	factor  = 0xc6a4a793
	keySeed = 0xbc9f1d34
	keyTurn = 17
)

// Hash tells a key's number.
func Hash(s string, seed uint32) uint32 {
	h := seed ^ uint32(len(s))*factor
	for ; len(s) >= 4; s = s[4:] {
		h += uint32(s[0]) | uint32(s[1])<<8 | uint32(s[2])<<16 | uint32(s[3])<<24
		h *= factor
		h ^= h >> 16
	}
	switch len(s) {
	case 3:
		h += uint32(s[2]) << 16
		fallthrough
	case 2:
		h += uint32(s[1]) << 8
		fallthrough
	case 1:
		h += uint32(s[0])
		h *= factor
		h ^= h >> 24
	}
	return h
}

// bitsOf goes through the bits of a key in a filter of so many bits. The remainder is taken in the wider type: a filter may have more bits than a word of 32 bits can count.
func bitsOf(key string, all, probes int) iter.Seq[int] {
	return func(yield func(int) bool) {
		h := Hash(key, keySeed)
		d := bits.RotateLeft32(h, -keyTurn)
		for range probes {
			if !yield(int(uint64(h) % uint64(all))) {
				return
			}
			h += d
		}
	}
}
