package cells

import (
	"iter"
	"slices"

	"handlebody/api"
)

// pile holds all faces of a complex by their texts: a byte for each vertex, so that texts stand in the order in which faces stand.
type pile map[string]int

// What a pile keeps of a face: whether it is part of a greater one.
const (
	outer = iota
	inner
)

// heap puts faces on a pile as long as they come; it asks for no more once a complex's bounds are passed.
func heap(faces iter.Seq[string]) (pile, error) {
	p := pile{}
	for face := range faces {
		if !p.put(face) {
			return nil, api.ErrBound
		}
	}
	return p, nil
}

// put a face and all its parts; false: a complex may not have them.
func (p pile) put(face string) bool {
	if p.holds(face) {
		return true // and its parts came with it
	}
	if len(face)-1 > api.MaxDim || len(p) == api.MaxFaces {
		return false
	}
	p[face] = outer
	for _, part := range parts(face) {
		if !p.put(part) {
			return false
		}
		p[part] = inner
	}
	return true
}

func (p pile) holds(face string) bool {
	_, ok := p[face]
	return ok
}

// parts of a face without its vertex 0, 1, ..: none of a single vertex.
func parts(face string) []string {
	if len(face) == 1 {
		return nil
	}
	out := make([]string, len(face))
	for i := range len(face) {
		out[i] = face[:i] + face[i+1:]
	}
	return out
}

// kept are the faces of which keep says so, in order.
func (p pile) kept(keep func(face string) bool) []string {
	var out []string
	for face := range p {
		if keep(face) {
			out = append(out, face)
		}
	}
	slices.Sort(out)
	return out
}

func (p pile) facets() []string {
	return p.kept(func(face string) bool { return p[face] == outer })
}

func (p pile) faces(dim int) []string {
	return p.kept(func(face string) bool { return len(face)-1 == dim })
}

// vector counts the faces of each dimension.
func (p pile) vector() []int {
	var out []int
	for face := range p {
		for len(out) < len(face) {
			out = append(out, 0)
		}
		out[len(face)-1]++
	}
	return out
}

// greatest vertex; -1, if there is none.
func (p pile) greatest() int {
	out := -1
	for face := range p {
		out = max(out, int(face[len(face)-1]))
	}
	return out
}

func (p pile) told() Complex { return Complex{Facets: lists(p.facets())} }

// lists of vertices that texts stand for, each in memory of its own.
func lists(texts []string) [][]int {
	var out [][]int
	for _, text := range texts {
		face := make([]int, len(text))
		for i := range len(text) {
			face[i] = int(text[i])
		}
		out = append(out, face)
	}
	return out
}

// setText is the text of a set of vertices in any order; false: it is none.
func setText(set []int) (string, bool) {
	var in [api.MaxVertex + 1]bool
	for _, v := range set {
		if v < 0 || v > api.MaxVertex || in[v] {
			return "", false
		}
		in[v] = true
	}
	text := make([]byte, 0, len(set))
	for v := range len(in) {
		if in[v] {
			text = append(text, byte(v))
		}
	}
	return string(text), len(set) > 0
}

// faceText is the text of a face, whose vertices rise; false: it is none.
func faceText(face []int) (string, bool) {
	text, ok := setText(face)
	if !ok || !slices.IsSorted(face) {
		return "", false
	}
	return text, true
}

// gather sets and all their parts.
func gather(sets [][]int) (pile, error) {
	texts := make([]string, len(sets))
	for i, set := range sets {
		text, ok := setText(set)
		if !ok {
			return nil, api.ErrFace
		}
		texts[i] = text
	}
	return heap(slices.Values(texts))
}

// open a complex that was handed in.
func open(c Complex) (pile, error) {
	p, err := gather(c.Facets)
	if err != nil {
		return nil, err
	}
	if !slices.EqualFunc(p.told().Facets, c.Facets, slices.Equal[[]int]) {
		return nil, api.ErrShape
	}
	return p, nil
}

func openBoth(a, b Complex) (pile, pile, error) {
	p, err := open(a)
	if err != nil {
		return nil, nil, err
	}
	q, err := open(b)
	return p, q, err
}

// built is the complex of what comes.
func built(faces iter.Seq[string]) (Complex, error) {
	p, err := heap(faces)
	if err != nil {
		return Complex{}, err
	}
	return p.told(), nil
}
