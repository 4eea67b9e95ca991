package cover

import (
	"maps"

	"handlebody/api"
)

// maxSheets: rows of a table.
const maxSheets = 24

// checkCount of rows.
func checkCount(table [][]int) error {
	if len(table) < 1 || len(table) > maxSheets {
		return api.ErrBound
	}
	return nil
}

// checkRows: that they have a length, which is even, and that each letter leads to a row, and back by its opposite.
func checkRows(table [][]int, length int) error {
	if length%2 != 0 {
		return api.ErrShape
	}
	for _, row := range table { // all lengths ahead of what leads back, for which other rows are read
		if len(row) != length {
			return api.ErrShape
		}
	}
	for i, row := range table {
		for column, to := range row {
			if to < 0 || to >= len(table) || table[to][column^1] != i {
				return api.ErrShape
			}
		}
	}
	return nil
}

// choices: a PIECE is rows that can be come to from each other; for each piece, in order, how many rows its first one can be given, if as many pieces like it have been given away as stand ahead of it. (Pieces that are alike are as good as each other: so which of them were given away makes no difference, and the product is that of all ways.)
func choices(table [][]int) []int {
	ahead := map[int]int{} // rows of pieces that were gone through
	var out []int
	for row := range table {
		if has(ahead, row) {
			continue
		}
		n := 0
		for to := range table {
			if !has(ahead, to) && given(table, row, to) != nil {
				n++
			}
		}
		out = append(out, n)
		maps.Copy(ahead, given(table, row, row))
	}
	return out
}

func has(m map[int]int, key int) bool {
	_, ok := m[key]
	return ok
}

// given: what each row of a piece must be given, if one of them is given a row; nil: letters do not lead so.
func given(table [][]int, row, to int) map[int]int {
	out, back := map[int]int{row: to}, map[int]int{to: row}
	rows := []int{row}
	for i := 0; i < len(rows); i++ {
		from := rows[i]
		for column, next := range table[from] {
			image := table[out[from]][column]
			switch {
			case !has(out, next) && !has(back, image):
				out[next], back[image] = image, next
				rows = append(rows, next)
			case !has(out, next) || out[next] != image:
				return nil
			}
		}
	}
	return out
}
