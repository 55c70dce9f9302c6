package mem

import "moraine/api"

// opSize is what an operation counts beside its bytes.
const opSize = 16

// mayBe tells whether an operation is one, as layer 4 has it, which is not called from here.
func mayBe(o api.Op) bool {
	if !isKeySize(len(o.Key)) {
		return false
	}
	switch o.Kind {
	case api.KindDelete:
		return o.Value == ""
	case api.KindPut:
		return len(o.Value) <= api.MaxValue
	case api.KindRange:
		return isKeySize(len(o.Value)) && o.Key < o.Value
	}
	return false
}

func isKeySize(size int) bool {
	return size >= 1 && size <= api.MaxKey
}

// sizeOf tells what an operation counts.
func sizeOf(o api.Op) int {
	return opSize + len(o.Key) + len(o.Value)
}
