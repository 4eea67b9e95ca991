package smith

import (
	"math"
	"slices"
)

// core: what is left of a matrix, and the numbers that were taken from it: with its factors they are those of the whole, but that they need not divide each other.
type core struct {
	rows  [][]int
	taken []int
}

// shrink takes numbers from a matrix so long as no entry comes to be more than one may be. Little is left of matrices that are mostly 0, as boundaries are: they need no numbers of any size.
func shrink(grid [][]int) core {
	c := core{rows: make([][]int, len(grid))}
	for i, row := range grid {
		c.rows[i] = slices.Clone(row)
	}
	for {
		row, col, ok := c.pivot()
		if !ok {
			return core{taken: c.taken}
		}
		if !c.clearColumn(row, col) {
			c.rows = withoutZeros(c.rows)
			return c
		}
		c.take(row, col)
	}
}

// pivot: an entry of the least size that is not 0; of several, one with few others beside it, so that few places are filled.
func (c *core) pivot() (row, col int, ok bool) {
	inRow, inCol := c.counts()
	least := math.MaxInt
	for i, l := range c.rows {
		for k, x := range l {
			if x == 0 {
				continue
			}
			if weight := size(x)<<32 + (inRow[i]-1)*(inCol[k]-1); weight < least {
				least, row, col = weight, i, k
			}
		}
	}
	return row, col, least < math.MaxInt
}

func size(x int) int { return max(x, -x) }

// counts of the entries that are not 0.
func (c *core) counts() (inRow, inCol []int) {
	inRow, inCol = make([]int, len(c.rows)), make([]int, width(c.rows))
	for i, l := range c.rows {
		for k, x := range l {
			if x != 0 {
				inRow[i]++
				inCol[k]++
			}
		}
	}
	return inRow, inCol
}

// clearColumn takes so much of a row from the others, that these have less in a column than it has; false: an entry would be too great.
func (c *core) clearColumn(row, col int) bool {
	from := c.rows[row]
	for i, to := range c.rows {
		if i != row && to[col] != 0 && !subtract(to, from, to[col]/from[col]) {
			return false
		}
	}
	return true
}

// subtract a multiple of a row from another one; false: it stays as it is, as an entry would be too great.
func subtract(to, from []int, times int) bool {
	for k, x := range from {
		if tooGreat(to[k] - times*x) {
			return false
		}
	}
	for k, x := range from {
		to[k] -= times * x
	}
	return true
}

// take an entry, if it is alone in its column and can be so in its row. (Where it is alone in its column, adding that to others changes just its row.) If it can not, there are lesser ones now.
func (c *core) take(row, col int) {
	for i, l := range c.rows {
		if i != row && l[col] != 0 {
			return
		}
	}
	l := c.rows[row]
	alone := true
	for k := range l {
		if k != col {
			l[k] %= l[col]
			alone = alone && l[k] == 0
		}
	}
	if alone {
		c.taken = append(c.taken, size(l[col]))
		c.rows = slices.Delete(c.rows, row, row+1)
	}
}

// withoutZeros: rows and columns of nothing but 0 left out.
func withoutZeros(grid [][]int) [][]int {
	for range 2 {
		var out [][]int
		for _, row := range grid {
			if slices.ContainsFunc(row, func(x int) bool { return x != 0 }) {
				out = append(out, row)
			}
		}
		grid = turned(out)
	}
	return grid
}
