package homology

import (
	"slices"

	"handlebody/api"
	"handlebody/cells"
	"handlebody/cubes"
	"handlebody/smith"
)

// Complex as a chain.
func Complex(c cells.Complex) (Chain, error) {
	counts, err := cells.Vector(c)
	if err != nil {
		return nil, err
	}
	return boundaries(len(counts), func(dim int) (smith.Matrix, error) { return cells.Boundary(c, dim) })
}

// Image as a chain.
func Image(m cubes.Image) (Chain, error) {
	return boundaries(3, func(dim int) (smith.Matrix, error) { return cubes.Boundary(m, dim) })
}

// boundaries of so many dimensions, from 0 on.
func boundaries(n int, boundary func(dim int) (smith.Matrix, error)) (Chain, error) {
	var out Chain
	for dim := range n {
		m, err := boundary(dim)
		if err != nil {
			return nil, err
		}
		out = append(out, m)
	}
	return out, nil
}

// Relative: of what is not in a part.
func Relative(c, sub cells.Complex) (Chain, error) {
	l, err := Complex(c)
	if err != nil {
		return nil, err
	}
	var rows []int
	for dim := range api.MaxDim + 1 {
		cols, err := left(c, sub, dim)
		if err != nil {
			return nil, err
		}
		if dim < len(l) {
			l[dim] = cut(l[dim], rows, cols)
		}
		rows = cols
	}
	return l, nil
}

// left: the places, among the faces of a dimension, of those that a part does not have.
func left(c, sub cells.Complex, dim int) ([]int, error) {
	all, err := cells.Faces(c, dim)
	if err != nil {
		return nil, err
	}
	part, err := cells.Faces(sub, dim)
	if err != nil {
		return nil, err
	}
	var out []int
	for i, face := range all { // both are in one order
		if len(part) > 0 && slices.Equal(face, part[0]) {
			part = part[1:]
		} else {
			out = append(out, i)
		}
	}
	if len(part) > 0 {
		return nil, api.ErrFace
	}
	return out, nil
}

// cut out these rows and columns.
func cut(m smith.Matrix, rows, cols []int) smith.Matrix {
	out := smith.Matrix{Rows: len(rows), Cols: len(cols)}
	for _, row := range rows {
		for _, col := range cols {
			out.L = append(out.L, m.L[row*m.Cols+col])
		}
	}
	return out
}
