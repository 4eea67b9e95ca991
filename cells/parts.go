package cells

import (
	"slices"
	"strings"

	"handlebody/api"
)

// Star of a face.
func Star(c Complex, f []int) (Complex, error) {
	facets, _, err := around(c, f)
	if err != nil {
		return Complex{}, err
	}
	return built(slices.Values(facets))
}

// Link of a face.
func Link(c Complex, f []int) (Complex, error) {
	facets, face, err := around(c, f)
	if err != nil {
		return Complex{}, err
	}
	var rests []string
	for _, facet := range facets {
		if rest := without(facet, face); rest != "" {
			rests = append(rests, rest)
		}
	}
	return built(slices.Values(rests))
}

// around tells the facets that have a face as a part, and the face's text.
func around(c Complex, f []int) (facets []string, face string, err error) {
	p, err := open(c)
	if err != nil {
		return nil, "", err
	}
	face, ok := faceText(f)
	if !ok || !p.holds(face) {
		return nil, "", api.ErrFace
	}
	for _, facet := range p.facets() {
		if len(without(facet, face)) == len(facet)-len(face) {
			facets = append(facets, facet)
		}
	}
	return facets, face, nil
}

// without the vertices of another face.
func without(face, other string) string {
	var rest []byte
	for i := range len(face) {
		if strings.IndexByte(other, face[i]) < 0 {
			rest = append(rest, face[i])
		}
	}
	return string(rest)
}

// Skeleton of a dimension.
func Skeleton(c Complex, dim int) (Complex, error) {
	p, err := open(c)
	if err != nil {
		return Complex{}, err
	}
	return built(slices.Values(p.kept(func(face string) bool { return len(face)-1 <= dim })))
}
