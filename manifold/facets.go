package manifold

import (
	"slices"

	"handlebody/api"
	"handlebody/cells"
)

// dimension of a complex, told by its facets; -1, if there are none.
func dimension(facets [][]int) int {
	dim := -1
	for _, f := range facets {
		dim = max(dim, len(f)-1)
	}
	return dim
}

func isPure(facets [][]int) bool {
	return !slices.ContainsFunc(facets, func(f []int) bool { return len(f) != len(facets[0]) })
}

// faces of a dimension, in order. (Facets that were asked already, and what is made of them here, are a complex: there is no error to tell.)
func faces(facets [][]int, dim int) [][]int {
	l, _ := cells.Faces(cells.Complex{Facets: facets}, dim)
	return l
}

func euler(facets [][]int) int {
	n, _ := cells.Euler(cells.Complex{Facets: facets})
	return n
}

// having: the numbers of the facets that have something, in order.
func having(facets [][]int, has func(facet []int) bool) []int {
	var out []int
	for i, f := range facets {
		if has(f) {
			out = append(out, i)
		}
	}
	return out
}

// around: the numbers of the facets that have a face as a part.
func around(facets [][]int, face []int) []int {
	return having(facets, func(facet []int) bool {
		return !slices.ContainsFunc(face, func(v int) bool { return !slices.Contains(facet, v) })
	})
}

// link of a vertex in a pure complex: facets again, in order, as all of them had the vertex and are of one length.
func link(facets [][]int, vertex int) [][]int {
	var out [][]int
	for _, i := range around(facets, []int{vertex}) {
		rest := slices.DeleteFunc(slices.Clone(facets[i]), func(v int) bool { return v == vertex })
		out = append(out, rest)
	}
	return out
}

// rim of a pure complex: its faces of one dimension less that are part of just one facet, in order.
func rim(facets [][]int) [][]int {
	return slices.DeleteFunc(faces(facets, dimension(facets)-1), func(face []int) bool {
		return len(around(facets, face)) != 1
	})
}

// isManifold: of a dimension above 0.
func isManifold(facets [][]int) bool {
	if !isPure(facets) {
		return false
	}
	return !slices.ContainsFunc(faces(facets, 0), func(v []int) bool {
		return shape(link(facets, v[0])) == ""
	})
}

// shape of a complex with faces: sphere, ball, or empty.
func shape(facets [][]int) string {
	if dimension(facets) == 0 {
		return shapeOfPoints(len(facets))
	}
	if !isManifold(facets) || len(pieces(facets)) > 1 {
		return ""
	}
	closed, n := len(rim(facets)) == 0, euler(facets)
	switch {
	case closed && n == 2*((dimension(facets)+1)%2): // 0 of a circle, 2 of a surface
		return "sphere"
	case !closed && n == 1: // a surface that has this number, and a rim, has one rim alone
		return "ball"
	}
	return ""
}

func shapeOfPoints(n int) string {
	switch n {
	case 1:
		return "ball"
	case 2:
		return "sphere"
	}
	return ""
}

// pieces: the facets of each connected piece, in order.
func pieces(facets [][]int) [][][]int {
	of := pieceOfVertices(facets)
	var out [][][]int
	for p := range of {
		var piece [][]int
		for _, i := range having(facets, func(f []int) bool { return of[f[0]] == p }) {
			piece = append(piece, facets[i])
		}
		if len(piece) > 0 {
			out = append(out, piece)
		}
	}
	return out
}

// pieceOfVertices: a number for each vertex, the same just if they are of one piece.
func pieceOfVertices(facets [][]int) [api.MaxVertex + 1]int {
	var of [api.MaxVertex + 1]int
	for v := range of {
		of[v] = v
	}
	for _, f := range facets {
		for _, v := range f {
			old := of[v]
			for u := range of {
				if of[u] == old {
					of[u] = of[f[0]]
				}
			}
		}
	}
	return of
}
