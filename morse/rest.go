package morse

import (
	"handlebody/api"
	"handlebody/cells"
)

// rest: what is left of a shape while faces are cut away. It is a complex all the time, so a face is free just if one face with one vertex more is over it: a greater one would bring two of these.
type rest struct {
	shape
	left  []bool
	count []int // of each face, those over it that are left
}

func uncut(s shape) rest {
	r := rest{shape: s, left: make([]bool, len(s.dim)), count: make([]int, len(s.dim))}
	for face, over := range s.over {
		r.left[face] = true
		r.count[face] = len(over)
	}
	return r
}

// cut a face away that is part of no other one.
func (r rest) cut(face int) {
	r.left[face] = false
	for _, x := range r.sides[face] {
		r.count[x.face]--
	}
}

func (r rest) cutPair(pair [2]int) {
	r.cut(pair[1])
	r.cut(pair[0])
}

// onlyOver a face that is free; false: it is not, or no face that is left.
func (r rest) onlyOver(face int) (int, bool) {
	if !r.has(face) || r.count[face] != 1 {
		return 0, false
	}
	for _, over := range r.over[face] {
		if r.left[over] {
			return over, true
		}
	}
	return 0, false
}

// freePairs one behind the other, by the free face.
func (r rest) freePairs(yield func([2]int) bool) {
	for face := range r.dim {
		if over, ok := r.onlyOver(face); ok && !yield([2]int{face, over}) {
			return
		}
	}
}

func (r rest) firstFree() ([2]int, bool) {
	for pair := range r.freePairs {
		return pair, true
	}
	return [2]int{}, false
}

// firstOfGreatest: the first face of the greatest dimension; false: none is left.
func (r rest) firstOfGreatest() (int, bool) {
	out, found := 0, false
	for face, left := range r.left {
		if left && (!found || r.dim[face] > r.dim[out]) {
			out, found = face, true
		}
	}
	return out, found
}

// complex of what is left of c, whose rest this is.
func (r rest) complex(c cells.Complex) (cells.Complex, error) {
	var sets [][]int
	face := 0
	for dim := range api.MaxDim + 1 {
		faces, err := cells.Faces(c, dim)
		if err != nil {
			return cells.Complex{}, err
		}
		for _, set := range faces {
			if r.left[face] {
				sets = append(sets, set)
			}
			face++
		}
	}
	return cells.Make(sets)
}
