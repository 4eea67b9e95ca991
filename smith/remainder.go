package smith

import (
	"math/bits"
	"slices"

	"handlebody/whole"
)

// Numbers on the way are of any size; their remainders by primes are not. Enough primes together tell the number itself.
const (
	maxField  = 9973    // the greatest prime that Rank takes
	topPrime  = 1 << 31 // primes are taken downwards from here, so that products of remainders stay in a word
	primeBits = 30      // each of them is more than 2 to the power of this
)

// isPrime, of numbers below 3215031751: these four witnesses are enough there (MILLER and RABIN).
func isPrime(n uint64) bool {
	witnesses := [4]uint64{2, 3, 5, 7}
	for _, w := range witnesses {
		if n%w == 0 {
			return n == w
		}
	}
	for _, w := range witnesses {
		if !passes(n, w) {
			return false
		}
	}
	return n > 1
}

// passes: n may be a prime, for all that a witness tells.
func passes(n, witness uint64) bool {
	twos := bits.TrailingZeros64(n - 1)
	x := power(witness, (n-1)>>twos, n)
	if x == 1 {
		return true
	}
	for range twos {
		if x == n-1 {
			return true
		}
		x = x * x % n
	}
	return false
}

func power(x, n, p uint64) uint64 {
	out := uint64(1)
	for x %= p; n > 0; n >>= 1 {
		if n&1 == 1 {
			out = out * x % p
		}
		x = x * x % p
	}
	return out
}

func primeBelow(n uint64) uint64 {
	for n--; !isPrime(n); n-- {
	}
	return n
}

// remainder by p, from 0 on.
func remainder(x int, p uint64) uint64 {
	r := x % int(p)
	if r < 0 {
		r += int(p)
	}
	return uint64(r)
}

func remainders(grid [][]int, p uint64) [][]uint64 {
	out := make([][]uint64, len(grid))
	for i, row := range grid {
		out[i] = make([]uint64, len(row))
		for k, x := range row {
			out[i][k] = remainder(x, p)
		}
	}
	return out
}

// place of rows and columns that make up a square of a determinant that is not 0, and as many as can be.
type place struct {
	rows, cols []int
	det, prime uint64 // that determinant's remainder, and by what
}

// basis: such a place over the field of p elements.
func basis(grid [][]int, p uint64) place {
	return eliminate(remainders(grid, p), width(grid), p)
}

// eliminate: such a place among the first columns. Rows change places, and come to have 0 up to where the one ahead begins.
func eliminate(l [][]uint64, cols int, p uint64) place {
	order := make([]int, len(l))
	for i := range order {
		order[i] = i
	}
	out := place{det: 1 % p, prime: p}
	for col := range cols {
		top := len(out.rows)
		at := top
		for at < len(l) && l[at][col] == 0 {
			at++
		}
		if at == len(l) {
			continue
		}
		if at != top {
			l[at], l[top] = l[top], l[at]
			order[at], order[top] = order[top], order[at]
			out.det = (p - out.det) % p
		}
		out.det = out.det * l[top][col] % p
		out.rows = append(out.rows, order[top])
		out.cols = append(out.cols, col)
		clearBelow(l[top:], col, p)
	}
	return out
}

func width(grid [][]int) int {
	if len(grid) == 0 {
		return 0
	}
	return len(grid[0])
}

// clearBelow takes so much of the first row from each other one, that these have 0 in a column.
func clearBelow(l [][]uint64, col int, p uint64) {
	first := l[0]
	inverse := power(first[col], p-2, p)
	for _, row := range l[1:] {
		if row[col] == 0 {
			continue
		}
		times := p - row[col]*inverse%p
		for k := col; k < len(row); k++ {
			row[k] = (row[k] + times*first[k]) % p
		}
	}
}

// wholeBasis: such a place over the fractions. A prime may tell too few rows, but only if it divides the determinants of all greater squares: when the primes together are greater than any of these, there are none.
func wholeBasis(grid [][]int) place {
	rows, cols := lengths(grid), lengths(turned(grid))
	var out place
	p := uint64(topPrime)
	for told := 0; ; told += primeBits {
		side := len(out.rows) + 1
		if told >= min(squareBits(rows, side), squareBits(cols, side)) {
			return out
		}
		p = primeBelow(p)
		if found := basis(grid, p); len(found.rows) > len(out.rows) {
			out = found
		}
	}
}

// cut out the square at a place.
func cut(grid [][]int, at place) [][]int {
	out := make([][]int, len(at.rows))
	for i, row := range at.rows {
		out[i] = make([]int, len(at.cols))
		for k, col := range at.cols {
			out[i][k] = grid[row][col]
		}
	}
	return out
}

// turned: columns as rows.
func turned(grid [][]int) [][]int {
	out := make([][]int, width(grid))
	for i := range out {
		out[i] = make([]int, len(grid))
		for k := range grid {
			out[i][k] = grid[k][i]
		}
	}
	return out
}

// lengths of rows: the bits of each one's sum of squares, the greatest first.
func lengths(grid [][]int) []int {
	out := make([]int, len(grid))
	for i, row := range grid {
		sum := uint64(0)
		for _, x := range row {
			sum += uint64(x * x)
		}
		out[i] = bits.Len64(sum)
	}
	slices.Sort(out)
	slices.Reverse(out)
	return out
}

// squareBits: a determinant of that many rows, or of parts of them, is below 2 to the power of this (HADAMARD); 0, where none but 0 can come.
func squareBits(lengths []int, side int) int {
	if side > len(lengths) || side > 0 && lengths[side-1] == 0 {
		return 0
	}
	sum := 0
	for _, n := range lengths[:side] {
		sum += n
	}
	return (sum + 1) / 2
}

// determinant of a square, without its sign, and that sign.
func determinant(grid [][]int) (size whole.Nat, negative bool) {
	n := len(grid)
	all := whole.Of(1)
	p := uint64(topPrime)
	enough := 1 + min(squareBits(lengths(grid), n), squareBits(lengths(turned(grid)), n))
	for told := 0; told < enough; told += primeBits {
		p = primeBelow(p)
		found := basis(grid, p)
		if len(found.rows) < n {
			found.det = 0
		}
		size = joined(size, all, found.det, p)
		all = all.Times(whole.Of(p))
	}
	if size.Plus(size).Compare(all) > 0 {
		return all.Minus(size), true
	}
	return size, false
}

// joined: the number below all times p whose remainders are x by all and r by p.
func joined(x, all whole.Nat, r, p uint64) whole.Nat {
	lacking := (r + p - small(x, p)) % p
	times := lacking * power(small(all, p), p-2, p) % p
	return x.Plus(all.Times(whole.Of(times)))
}

func small(x whole.Nat, p uint64) uint64 {
	_, rest := x.Divide(whole.Of(p))
	out, _ := rest.Word()
	return out
}
