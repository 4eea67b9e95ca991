package index

import (
	"slices"

	"handlebody/api"
	"handlebody/cells"
)

// shape: the faces of a complex, by dimension, of one in order.
type shape [api.MaxDim + 1][][]int

func shapeOf(c cells.Complex) (shape, error) {
	var out shape
	for dim := range out {
		l, err := cells.Faces(c, dim)
		if err != nil {
			return shape{}, err
		}
		out[dim] = l
	}
	return out, nil
}

func (s shape) vertices() [][]int { return s[0] }

func (s shape) all() [][]int { return slices.Concat(s[:]...) }

// has a shape a face? (Of one of the dimensions that there are.)
func (s shape) has(face []int) bool {
	_, ok := slices.BinarySearchFunc(s[len(face)-1], face, slices.Compare[[]int])
	return ok
}

// numbers that vertices are given, in order, each to be found by its vertex.
type numbers [api.MaxVertex + 1]int

func (s shape) numbered(l []int) numbers {
	var out numbers
	for i, v := range s.vertices() {
		out[v[0]] = l[i]
	}
	return out
}

// indices by heights. What is lower in a vertex's link are the other vertices of the faces of which it is the highest one: each of these counts with its own sign, the vertex itself being the 1.
func (s shape) indices(h []int) []int {
	height := s.numbered(h)
	var sum numbers
	for _, face := range s.all() {
		top := slices.MaxFunc(face, func(v, w int) int { return height[v] - height[w] })
		sum[top] += evenness(len(face) - 1)
	}
	var out []int
	for _, v := range s.vertices() {
		out = append(out, sum[v[0]])
	}
	return out
}

// evenness is 1 of an even number, -1 of an odd one.
func evenness(n int) int { return 1 - 2*(n%2) }
