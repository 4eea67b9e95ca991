// Package smith: matrices of whole numbers: see ../shared/doc/01-smith.md.
package smith

import "handlebody/api"

// Matrix of whole numbers, row by row.
type Matrix struct {
	Rows, Cols int
	L          []int
}

// GreatSide is the bound of rows and columns that chains have in place of MaxSide: see ValidGreat, RankGreat, FactorsGreat.
const GreatSide = 300

// Valid matrix?
func Valid(m Matrix) error { return valid(m, api.MaxSide) }

// ValidGreat is Valid with GreatSide.
func ValidGreat(m Matrix) error { return valid(m, GreatSide) }

func valid(m Matrix, side int) error {
	if outside(m.Rows, side) || outside(m.Cols, side) {
		return api.ErrBound
	}
	if len(m.L) != m.Rows*m.Cols {
		return api.ErrShape
	}
	return entries(m.L)
}

func outside(n, side int) bool { return n < 0 || n > side }

// entries that a matrix may have?
func entries(l []int) error {
	for i := range len(l) {
		if tooGreat(l[i]) {
			return api.ErrShape
		}
	}
	return nil
}

func tooGreat(x int) bool { return x < -api.MaxEntry || x > api.MaxEntry }

// Rank over a field.
func Rank(m Matrix, p int) (int, error) { return rank(m, p, api.MaxSide) }

// RankGreat is Rank with GreatSide.
func RankGreat(m Matrix, p int) (int, error) { return rank(m, p, GreatSide) }

func rank(m Matrix, p, side int) (int, error) {
	if err := valid(m, side); err != nil {
		return 0, err
	}
	if err := Field(p); err != nil {
		return 0, err
	}
	if p == 0 {
		c := shrink(m.grid())
		return len(c.taken) + len(wholeBasis(c.rows).rows), nil
	}
	return len(basis(m.grid(), uint64(p)).rows), nil
}

// Field of p elements (0: of fractions), as Rank takes it?
func Field(p int) error {
	if p == 0 || p > 0 && p <= maxField && isPrime(uint64(p)) {
		return nil
	}
	return api.ErrKind
}

// Factors of a matrix.
func Factors(m Matrix) ([]int, error) { return factorsUpTo(m, api.MaxSide) }

// FactorsGreat is Factors with GreatSide.
func FactorsGreat(m Matrix) ([]int, error) { return factorsUpTo(m, GreatSide) }

func factorsUpTo(m Matrix, side int) ([]int, error) {
	if err := valid(m, side); err != nil {
		return nil, err
	}
	l, ok := factors(m.grid())
	if !ok {
		return nil, api.ErrBound
	}
	return l, nil
}

// Det: the determinant.
func Det(m Matrix) (int, error) {
	if err := Valid(m); err != nil {
		return 0, err
	}
	if m.Rows != m.Cols {
		return 0, api.ErrShape
	}
	amount, negative := determinant(m.grid())
	x, ok := told(amount)
	if !ok {
		return 0, api.ErrBound
	}
	if negative {
		return -x, nil
	}
	return x, nil
}

// Solvable in whole numbers?
func Solvable(m Matrix, b []int) (bool, error) {
	if err := Valid(m); err != nil {
		return false, err
	}
	if len(b) != m.Rows {
		return false, api.ErrShape
	}
	if err := entries(b); err != nil {
		return false, err
	}
	both := m.gridWith(b)
	found := wholeBasis(m.grid())
	if len(wholeBasis(both).rows) > len(found.rows) {
		return false, nil // not even in fractions
	}
	mod, _ := determinant(cut(both, found))
	t := newTable(both, m.Cols, mod, len(found.rows), len(found.rows))
	for range t.left {
		if !t.next() {
			return false, nil
		}
	}
	return true, nil
}

// Product of two.
func Product(a, b Matrix) (Matrix, error) {
	if err := Valid(a); err != nil {
		return Matrix{}, err
	}
	if err := Valid(b); err != nil {
		return Matrix{}, err
	}
	if a.Cols != b.Rows {
		return Matrix{}, api.ErrShape
	}
	out := Matrix{a.Rows, b.Cols, make([]int, a.Rows*b.Cols)}
	for i := range a.Rows {
		for k := range b.Cols {
			x := entryOfProduct(a, b, i, k)
			if tooGreat(x) {
				return Matrix{}, api.ErrBound
			}
			out.L[i*b.Cols+k] = x
		}
	}
	return out, nil
}

func entryOfProduct(a, b Matrix, row, col int) int {
	sum := 0
	for i := range a.Cols {
		sum += a.L[row*a.Cols+i] * b.L[i*b.Cols+col]
	}
	return sum
}

// grid: the rows as lists.
func (m Matrix) grid() [][]int {
	out := make([][]int, m.Rows)
	for i := range out {
		out[i] = m.L[i*m.Cols : (i+1)*m.Cols]
	}
	return out
}

// gridWith one more column.
func (m Matrix) gridWith(column []int) [][]int {
	out := make([][]int, m.Rows)
	for i, row := range m.grid() {
		out[i] = append(append(make([]int, 0, m.Cols+1), row...), column[i])
	}
	return out
}
