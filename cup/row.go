package cup

import (
	"math/bits"
	"slices"
)

// row of numbers of the field of two elements, 64 of them in a word.
type row []uint64

func newRow(n int) row { return make(row, (n+63)/64) }

// rowOf a list of places below n that rises; false of another list.
func rowOf(n int, list []int) (row, bool) {
	out := newRow(n)
	least := 0
	for _, place := range list {
		if place < least || place >= n {
			return nil, false
		}
		out.flip(place)
		least = place + 1
	}
	return out, true
}

func (r row) flip(place int) { r[place/64] ^= 1 << (place % 64) }

func (r row) has(place int) bool { return r[place/64]>>(place%64)&1 == 1 }

// add a row of the same length.
func (r row) add(other row) {
	for i, word := range other {
		r[i] ^= word
	}
}

func (r row) isZero() bool { return r.first() == 64*len(r) }

// first place that is not 0; one behind them all, if there is none.
func (r row) first() int {
	for i, word := range r {
		if word != 0 {
			return 64*i + bits.TrailingZeros64(word)
		}
	}
	return 64 * len(r)
}

// told as the places that are not 0, rising.
func (r row) told() []int {
	var out []int
	for i, word := range r {
		for ; word != 0; word &= word - 1 {
			out = append(out, 64*i+bits.TrailingZeros64(word))
		}
	}
	return out
}

// sorter of rows of one length: of each row it tells what is left when rows ahead are added until none begins where it does, and keeps that for those to come.
func sorter() func(r row) row {
	byFirst := map[int]row{}
	return func(r row) row {
		left := slices.Clone(r)
		for !left.isZero() {
			other, ok := byFirst[left.first()]
			if !ok {
				byFirst[left.first()] = left
				break
			}
			left.add(other)
		}
		return left
	}
}
