package check

// linear is a linear map of registers: for each of their bits what a register of that bit alone becomes.
type linear [32]uint32

// afterNoughts tells what a register becomes by taking n bytes of nought: the maps of 1, 2, 4, .. bytes come by squaring, so that the greatest n takes no more than 63 of them.
func afterNoughts(register uint32, n int) uint32 {
	m := oneNought()
	for ; n > 0; n >>= 1 {
		if n&1 == 1 {
			register = m.of(register)
		}
		m = m.squared()
	}
	return register
}

func oneNought() (m linear) {
	for i := range len(m) {
		m[i] = afterNought(1 << i)
	}
	return m
}

func (m linear) of(register uint32) (out uint32) {
	for i := range len(m) {
		if register>>i&1 == 1 {
			out ^= m[i]
		}
	}
	return out
}

func (m linear) squared() (out linear) {
	for i := range len(m) {
		out[i] = m.of(m[i])
	}
	return out
}
