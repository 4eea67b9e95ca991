package persist

import (
	"cmp"
	"slices"

	"handlebody/api"
)

// maxTime at which a face may come, or a bar begin or end.
const maxTime = 1000000

// story: what steps tell, by the faces' numbers.
type story struct {
	times  []int
	parts  [][]int // of each face: those of one vertex less
	coming [][]int // of each dimension: its faces, as they come
	place  []int   // of each face: where it stands among those
}

// open steps that were handed in.
func open(f Steps) (story, error) {
	if len(f.Faces) > api.MaxFaces {
		return story{}, api.ErrBound
	}
	if len(f.Times) != len(f.Faces) || slices.ContainsFunc(f.Times, isNoTime) {
		return story{}, api.ErrShape
	}
	texts, number, ok := numbered(f.Faces)
	if !ok {
		return story{}, api.ErrFace
	}
	s := story{times: f.Times}
	if s.parts, ok = allParts(texts, number); !ok {
		return story{}, api.ErrFace
	}
	if !s.isInOrder() {
		return story{}, api.ErrOrder
	}
	s.arrange(texts)
	return s, nil
}

func openFor(f Steps, workers int) (story, error) {
	s, err := open(f)
	if err == nil && (workers < 1 || workers > api.Workers) {
		return story{}, api.ErrShape
	}
	return s, err
}

func isNoTime(t int) bool { return t < 0 || t > maxTime }

// numbered: the faces' texts, and the number of each; false: one is none, or stands twice.
func numbered(faces [][]int) (texts []string, number map[string]int, ok bool) {
	texts, number = make([]string, len(faces)), map[string]int{}
	for i, face := range faces {
		text, ok := textOf(face)
		if !ok {
			return nil, nil, false
		}
		texts[i], number[text] = text, i
	}
	return texts, number, len(number) == len(faces)
}

// textOf a face: a byte for each vertex, so that texts stand in the order in which faces stand; false: it is none that a complex may have.
func textOf(face []int) (string, bool) {
	if len(face) == 0 || len(face)-1 > api.MaxDim {
		return "", false
	}
	text := make([]byte, len(face))
	least := 0
	for i, v := range face {
		if v < least || v > api.MaxVertex {
			return "", false
		}
		text[i] = byte(v)
		least = v + 1
	}
	return string(text), true
}

// allParts of one vertex less, of each face; false: one is missing. (Smaller parts are parts of these.)
func allParts(texts []string, number map[string]int) ([][]int, bool) {
	out := make([][]int, len(texts))
	for i, text := range texts {
		if len(text) == 1 {
			continue
		}
		for k := range len(text) {
			part, ok := number[text[:k]+text[k+1:]]
			if !ok {
				return nil, false
			}
			out[i] = append(out[i], part)
		}
	}
	return out, true
}

// isInOrder: does no face come ahead of a part?
func (s *story) isInOrder() bool {
	for i, parts := range s.parts {
		for _, part := range parts {
			if s.times[part] > s.times[i] {
				return false
			}
		}
	}
	return true
}

// arrange the faces of each dimension as they come. (The order of all faces is not needed: only faces of one dimension are held against each other.)
func (s *story) arrange(texts []string) {
	for i, text := range texts {
		for len(s.coming) < len(text) {
			s.coming = append(s.coming, nil)
		}
		s.coming[len(text)-1] = append(s.coming[len(text)-1], i)
	}
	s.place = make([]int, len(texts))
	for _, faces := range s.coming {
		slices.SortFunc(faces, func(a, b int) int {
			return cmp.Or(cmp.Compare(s.times[a], s.times[b]), cmp.Compare(texts[a], texts[b]))
		})
		for place, face := range faces {
			s.place[face] = place
		}
	}
}
