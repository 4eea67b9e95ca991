package smith

import "handlebody/whole"

// lastDivisor: a number that divides the last factor, and is seldom less by more than small primes.
//
// Let B be a greatest square, R its rows, c any numbers. Let y be B^-1 c, times the least number that makes its products with all rows whole: those with whole sums of rows are whole, then. Let b be c B^-1 R, times the least number that makes it whole: it is a sum of rows with fractions, so that the last factor times b is a whole sum of rows. Then that factor makes the product of b and y whole: it is a multiple of what stands below that fraction.
func lastDivisor(grid [][]int, at place, det whole.Nat) whole.Nat {
	square := cut(grid, at)
	side := anyNumbers(len(square))
	y := solution(square, side, det)
	value := product(side, y, det)
	if len(at.rows) < len(grid) {
		columns := turned(choose(turned(grid), at.cols))
		value = value.Times(denominator(columns, y, det))
	}
	if len(at.rows) < width(grid) {
		x := solution(turned(square), side, det)
		value = value.Times(denominator(turned(choose(grid, at.rows)), x, det))
	}
	return lowest(value, det)
}

// anyNumbers, not too even ones.
func anyNumbers(n int) []int {
	out := make([]int, n)
	for i := range out {
		out[i] = 1 + i*i%31
	}
	return out
}

func choose(grid [][]int, rows []int) [][]int {
	out := make([][]int, len(rows))
	for i, row := range rows {
		out[i] = grid[row]
	}
	return out
}

// denominator of all products of rows with a list, over det.
func denominator(grid [][]int, l []whole.Nat, det whole.Nat) whole.Nat {
	common := det
	for _, row := range grid {
		common = common.Gcd(product(row, l, det))
	}
	return lowest(common, det)
}

// lowest: what stands below x over det in its lowest terms.
func lowest(x, det whole.Nat) whole.Nat {
	out, _ := det.Divide(det.Gcd(x))
	return out
}

// product of two lists, as a remainder.
func product(row []int, l []whole.Nat, mod whole.Nat) whole.Nat {
	var above, below whole.Nat
	for i, x := range row {
		if x >= 0 {
			above = above.Plus(l[i].Times(whole.Of(uint64(x))))
		} else {
			below = below.Plus(l[i].Times(whole.Of(uint64(-x))))
		}
	}
	return difference(above, below, mod)
}

// difference of two numbers, as a remainder.
func difference(above, below, mod whole.Nat) whole.Nat {
	_, above = above.Divide(mod)
	_, below = below.Divide(mod)
	_, out := above.Plus(mod).Minus(below).Divide(mod)
	return out
}

// solution of square x = right, times the determinant of square (which is not 0), as remainders by mod.
func solution(square [][]int, right []int, mod whole.Nat) []whole.Nat {
	both := make([][]int, len(square))
	for i, row := range square {
		both[i] = append(append([]int{}, row...), right[i])
	}
	out := make([]whole.Nat, len(square))
	all := whole.Of(1)
	p := uint64(topPrime)
	enough := 1 + squareBits(lengths(both), len(both))
	for told := 0; told < enough; {
		p = primeBelow(p)
		l, ok := solutionBy(both, p)
		if !ok {
			continue
		}
		for i, x := range l {
			out[i] = joined(out[i], all, x, p)
		}
		all = all.Times(whole.Of(p))
		told += primeBits
	}
	for i, x := range out {
		var over whole.Nat
		if x.Plus(x).Compare(all) > 0 {
			over = all
		}
		out[i] = difference(x, over, mod)
	}
	return out
}

// solutionBy a prime: the last column is the right side; false: the determinant is 0.
func solutionBy(both [][]int, p uint64) ([]uint64, bool) {
	n := len(both)
	l := remainders(both, p)
	at := eliminate(l, n, p)
	if len(at.rows) < n {
		return nil, false
	}
	out := make([]uint64, n)
	for i := n - 1; i >= 0; i-- {
		x := l[i][n] * at.det % p
		for k := i + 1; k < n; k++ {
			x = (x + (p-l[i][k])*out[k]) % p
		}
		out[i] = x * power(l[i][i], p-2, p) % p
	}
	return out, true
}
