package cells

import (
	"iter"
	"slices"

	"handlebody/api"
)

// Join of two.
func Join(a, b Complex) (Complex, error) {
	p, q, err := openBoth(a, b)
	if err != nil {
		return Complex{}, err
	}
	up := p.greatest() + 1
	if up+q.greatest() > api.MaxVertex {
		return Complex{}, api.ErrFace
	}
	return built(unions(p.facets(), raised(q.facets(), up)))
}

// raised vertices, each by so much.
func raised(faces []string, up int) []string {
	out := make([]string, len(faces))
	for i, face := range faces {
		text := []byte(face)
		for k := range text {
			text[k] += byte(up)
		}
		out[i] = string(text)
	}
	return out
}

// unions of one of each; and each alone, for where the other list is empty.
func unions(low, high []string) iter.Seq[string] {
	return func(yield func(string) bool) {
		for _, f := range slices.Concat(low, high) {
			if !yield(f) {
				return
			}
		}
		for _, f := range low {
			for _, g := range high {
				if !yield(f + g) {
					return
				}
			}
		}
	}
}

// Cone over a complex.
func Cone(c Complex) (Complex, error) { return Join(c, Complex{Facets: [][]int{{0}}}) }

// Suspend a complex.
func Suspend(c Complex) (Complex, error) { return Join(c, Complex{Facets: [][]int{{0}, {1}}}) }

// Union of two.
func Union(a, b Complex) (Complex, error) {
	p, q, err := openBoth(a, b)
	if err != nil {
		return Complex{}, err
	}
	return built(slices.Values(slices.Concat(p.facets(), q.facets())))
}

// Meet of two.
func Meet(a, b Complex) (Complex, error) {
	p, q, err := openBoth(a, b)
	if err != nil {
		return Complex{}, err
	}
	return built(slices.Values(p.kept(q.holds)))
}

// Product of two.
func Product(a, b Complex) (Complex, error) {
	p, q, err := openBoth(a, b)
	if err != nil {
		return Complex{}, err
	}
	wide := len(q.faces(0))
	if len(p.faces(0))*wide > api.MaxVertex+1 {
		return Complex{}, api.ErrFace
	}
	return built(stairs(p.counted(), q.counted(), wide))
}

// counted are the facets with each vertex told by how many are less.
func (p pile) counted() []string {
	var place [api.MaxVertex + 1]byte
	for i, v := range p.faces(0) {
		place[v[0]] = byte(i)
	}
	facets := p.facets()
	for i, facet := range facets {
		text := []byte(facet)
		for k, v := range text {
			text[k] = place[v]
		}
		facets[i] = string(text)
	}
	return facets
}

// stairs of all pairs of facets: the longest rows of pairs of vertices of which each next one is a step in one of both.
func stairs(first, second []string, wide int) iter.Seq[string] {
	return func(yield func(string) bool) {
		for _, f := range first {
			for _, g := range second {
				if !climb(f, g, wide, nil, yield) {
					return
				}
			}
		}
	}
}

// climb all stairs over what is left of two facets, behind a path so far; false: no more are asked for.
func climb(f, g string, wide int, path []byte, yield func(string) bool) bool {
	path = append(path, f[0]*byte(wide)+g[0])
	if len(f) == 1 && len(g) == 1 {
		return yield(string(path))
	}
	if len(f) > 1 && !climb(f[1:], g, wide, path, yield) {
		return false
	}
	return len(g) == 1 || climb(f, g[1:], wide, path, yield)
}
