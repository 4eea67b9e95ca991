package group

import (
	"slices"

	"handlebody/cells"
)

// faces of a dimension, in order, of a complex that was asked already: there is no error to tell.
func faces(c cells.Complex, dim int) [][]int {
	l, _ := cells.Faces(c, dim)
	return l
}

func edges(c cells.Complex) [][2]int {
	var out [][2]int
	for _, f := range faces(c, 1) {
		out = append(out, [2]int{f[0], f[1]})
	}
	return out
}

// spread a tree from a vertex: how many vertices are reached, and the edges that are not of the tree, in order.
func spread(first int, edges [][2]int) (int, [][2]int) {
	reached := []int{first}
	inTree := make([]bool, len(edges))
	for i := 0; i < len(reached); i++ {
		for k, e := range edges { // in their order the neighbours of a vertex rise
			next, ok := across(e, reached[i])
			if ok && !slices.Contains(reached, next) {
				reached = append(reached, next)
				inTree[k] = true
			}
		}
	}
	var rest [][2]int
	for k, e := range edges {
		if !inTree[k] {
			rest = append(rest, e)
		}
	}
	return len(reached), rest
}

// across an edge from a vertex; false: it is not of the edge.
func across(edge [2]int, vertex int) (int, bool) {
	switch vertex {
	case edge[0]:
		return edge[1], true
	case edge[1]:
		return edge[0], true
	}
	return 0, false
}

// around: the words of the ways around triangles; generators are the edges that have letters, 1, 2, ..
func around(triangles [][]int, generators [][2]int) [][]int {
	letter := func(a, b int) int { return slices.Index(generators, [2]int{a, b}) + 1 }
	var out [][]int
	for _, f := range triangles {
		word := []int{letter(f[0], f[1]), letter(f[1], f[2]), -letter(f[0], f[2])}
		word = slices.DeleteFunc(word, func(letter int) bool { return letter == 0 })
		if word = Reduce(word); len(word) > 0 {
			out = append(out, word)
		}
	}
	return out
}
