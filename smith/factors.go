package smith

import (
	"handlebody/api"
	"handlebody/whole"
)

// smooth: small primes are in many numbers by chance; so many of each are allowed for.
const smooth = (1 << 16) * 6561 * 625 * 343 * 11 * 13 * 17 * 19

// factors of a matrix; false: one is above MaxFactor.
func factors(grid [][]int) ([]int, bool) {
	c := shrink(grid)
	l, ok := coreFactors(c.rows)
	if !ok {
		return nil, false
	}
	return chained(append(c.taken, l...))
}

// chained: each number dividing the next one, by taking of two what they have in common, and the least number that both divide. (This one divides the last factor of all: if it is above MaxFactor, so is that.)
func chained(l []int) ([]int, bool) {
	for i := range l {
		for k := i + 1; k < len(l); k++ {
			common := gcd(l[i], l[k])
			rest := l[i] / common
			if l[k] > api.MaxFactor/rest {
				return nil, false
			}
			l[i], l[k] = common, l[k]*rest
		}
	}
	return l, true
}

func gcd(a, b int) int {
	for b != 0 {
		a, b = b, a%b
	}
	return a
}

// coreFactors: with numbers of any size. Remainders by a multiple of the last factor tell them all. The product of all is one, but a great one; so first a guess is tried: if the product of what it tells is the product of all, it told all.
func coreFactors(grid [][]int) ([]int, bool) {
	at := wholeBasis(grid)
	if len(at.rows) == 0 {
		return nil, true
	}
	det, _ := determinant(cut(grid, at))
	last := lastDivisor(grid, at, det)
	if _, ok := told(last); !ok {
		return nil, false
	}
	product := productMultiple(grid, at, det)
	if guess := product.Gcd(last.Times(whole.Of(smooth))); guess.Compare(product) < 0 {
		l, ok := newTable(grid, width(grid), guess, len(at.rows), 1).factors()
		if ok && timesAll(l).Compare(product) == 0 {
			return l, true
		}
	}
	return newTable(grid, width(grid), product, len(at.rows), len(at.rows)).factors()
}

// productMultiple: a multiple of the product of all factors: what the determinants of two greatest squares have in common. (It is seldom more than that product by more than small primes.)
func productMultiple(grid [][]int, at place, det whole.Nat) whole.Nat {
	if len(at.rows) == len(grid) && len(at.rows) == width(grid) {
		return det
	}
	around := turnedAround(grid)
	other, _ := determinant(cut(around, basis(around, at.prime)))
	return det.Gcd(other)
}

// turnedAround: the last rows and columns first.
func turnedAround(grid [][]int) [][]int {
	out := make([][]int, len(grid))
	for i, row := range grid {
		l := make([]int, len(row))
		for k, x := range row {
			l[len(row)-1-k] = x
		}
		out[len(grid)-1-i] = l
	}
	return out
}

// told as a number, if it is not above MaxFactor.
func told(x whole.Nat) (int, bool) {
	word, ok := x.Word()
	if !ok || word > api.MaxFactor {
		return 0, false
	}
	return int(word), true
}

func timesAll(l []int) whole.Nat {
	out := whole.Of(1)
	for _, x := range l {
		out = out.Times(whole.Of(uint64(x)))
	}
	return out
}
