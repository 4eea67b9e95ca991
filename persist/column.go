package persist

import "math/bits"

// column of numbers of the field of two elements, 64 of them in a word.
type column []uint64

func newColumn(n int) column { return make(column, (n+63)/64) }

func (c column) flip(place int) { c[place/64] ^= 1 << (place % 64) }

// add a column of the same length.
func (c column) add(other column) {
	for i, word := range other {
		c[i] ^= word
	}
}

// last place that is not 0; -1, if there is none.
func (c column) last() int {
	for i := len(c) - 1; i >= 0; i-- {
		if c[i] != 0 {
			return 64*i + bits.Len64(c[i]) - 1
		}
	}
	return -1
}
