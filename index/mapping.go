package index

import (
	"slices"

	"handlebody/api"
	"handlebody/cells"
)

// mapping of a complex into another one.
type mapping struct {
	faces [][]int // of the first one: all, by dimension
	image numbers // of each vertex
}

// open a map that was handed in.
func open(a, b cells.Complex, f []int) (mapping, error) {
	from, err := shapeOf(a)
	if err != nil {
		return mapping{}, err
	}
	to, err := shapeOf(b)
	if err != nil {
		return mapping{}, err
	}
	if len(f) != len(from.vertices()) {
		return mapping{}, api.ErrShape
	}
	for i := range f {
		if !to.has(f[i : i+1]) {
			return mapping{}, &api.Fault{At: i, Err: api.ErrFace}
		}
	}
	m := mapping{from.all(), from.numbered(f)}
	for i, face := range m.faces {
		if !to.has(m.set(face)) {
			return mapping{}, &api.Fault{At: i, Err: api.ErrOrder}
		}
	}
	return m, nil
}

// images of a face's vertices, in their order.
func (m mapping) images(face []int) []int {
	out := make([]int, len(face))
	for i, v := range face {
		out[i] = m.image[v]
	}
	return out
}

// set of the images, rising, each once.
func (m mapping) set(face []int) []int {
	l := m.images(face)
	slices.Sort(l)
	return slices.Compact(l)
}

// sign of the order in which a face's vertices come onto one of its dimension: 0, if it is not taken onto this.
func (m mapping) sign(face, goal []int) int {
	if !slices.Equal(m.set(face), goal) {
		return 0
	}
	return signOfOrder(m.images(face))
}

// signOfOrder of numbers no two of which are alike: by how many pairs are the wrong way around.
func signOfOrder(l []int) int {
	wrong := 0
	for i := range l {
		for _, later := range l[i+1:] {
			if later < l[i] {
				wrong++
			}
		}
	}
	return evenness(wrong)
}
