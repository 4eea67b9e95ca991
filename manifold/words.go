package manifold

import (
	"slices"

	"handlebody/surface"
)

// words of triangles, along their edges in order; each edge's letter is its number from 1 on.
func words(facets [][]int) surface.Words {
	edges := faces(facets, 1)
	letter := func(a, b int) int {
		i, _ := slices.BinarySearchFunc(edges, []int{a, b}, slices.Compare[[]int])
		return i + 1
	}
	var out surface.Words
	for _, f := range facets {
		out = append(out, []int{letter(f[0], f[1]), letter(f[1], f[2]), -letter(f[0], f[2])})
	}
	return out
}
