package morse

import (
	"slices"

	"handlebody/api"
	"handlebody/cells"
)

// field: a shape with a gradient.
type field struct {
	shape
	mate []int // of each face, the other one of its pair, or none
}

const none = -1

// fieldOf a complex and a gradient, with all errors that Check tells.
func fieldOf(c cells.Complex, g [][2]int) (field, error) {
	s, err := number(c)
	if err != nil {
		return field{}, err
	}
	f := field{shape: s, mate: slices.Repeat([]int{none}, len(s.dim))}
	for i, pair := range g {
		if !f.join(pair) {
			return field{}, &api.Fault{At: i, Err: api.ErrFace}
		}
	}
	if f.hasCircle() {
		return field{}, &api.Fault{Err: api.ErrOrder}
	}
	return f, nil
}

// join two faces to a pair; false: they cannot be one.
func (f field) join(pair [2]int) bool {
	low, high := pair[0], pair[1]
	if !f.has(low) || !slices.Contains(f.over[low], high) || !f.isCritical(low) || !f.isCritical(high) {
		return false
	}
	f.mate[low], f.mate[high] = high, low
	return true
}

func (f field) isCritical(face int) bool { return f.mate[face] == none }

// critical faces of a dimension.
func (f field) critical(dim int) []int {
	var out []int
	for face := range f.mate {
		if f.dim[face] == dim && f.isCritical(face) {
			out = append(out, face)
		}
	}
	return out
}

// up from the first face of a pair to the second one; false: it is first in none.
func (f field) up(face int) (int, bool) {
	mate := f.mate[face]
	return mate, mate > face // numbers rise with the dimension
}

// What hasCircle knows of a face.
const (
	fresh = iota
	onTheWay
	done
)

func (f field) hasCircle() bool {
	state := make([]int, len(f.mate))
	var closes func(face int) bool
	closes = func(face int) bool {
		over, ok := f.up(face)
		if !ok || state[face] == done {
			return false
		}
		if state[face] == onTheWay {
			return true
		}
		state[face] = onTheWay
		for _, x := range f.sides[over] {
			if x.face != face && closes(x.face) {
				return true
			}
		}
		state[face] = done
		return false
	}
	for face := range state {
		if closes(face) {
			return true
		}
	}
	return false
}
