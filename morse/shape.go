package morse

import (
	"handlebody/cells"
	"handlebody/smith"
)

// side of a face: a part with one vertex less, and the sign with which it stands in the boundary.
type side struct{ face, sign int }

// shape: the faces of a complex by their numbers, which rise with the dimension.
type shape struct {
	dim   []int    // of each face
	sides [][]side // of each face
	over  [][]int  // of each face, those of which it is a side, rising
}

// number the faces of a complex.
func number(c cells.Complex) (shape, error) {
	counts, err := cells.Vector(c)
	if err != nil {
		return shape{}, err
	}
	var s shape
	for dim, n := range counts {
		m, err := cells.Boundary(c, dim)
		if err != nil {
			return shape{}, err
		}
		first := len(s.dim)
		for range n {
			s.dim = append(s.dim, dim)
		}
		s.sides = append(s.sides, make([][]side, n)...)
		s.over = append(s.over, make([][]int, n)...)
		s.addSides(m, first)
	}
	return s, nil
}

// addSides of the dimension whose boundary is told, and whose first number.
func (s shape) addSides(m smith.Matrix, first int) {
	for row := range m.Rows {
		low := first - m.Rows + row
		for col := range m.Cols {
			if sign := m.L[row*m.Cols+col]; sign != 0 {
				high := first + col
				s.sides[high] = append(s.sides[high], side{low, sign})
				s.over[low] = append(s.over[low], high)
			}
		}
	}
}

func (s shape) has(face int) bool { return face >= 0 && face < len(s.dim) }
