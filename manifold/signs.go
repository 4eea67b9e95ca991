package manifold

import "slices"

// bond of a facet to another one that shares a face of one dimension less: the other's sign is this one's times sign.
type bond struct{ to, sign int }

// bonds of each facet of a manifold.
func bonds(facets [][]int) [][]bond {
	out := make([][]bond, len(facets))
	for _, face := range faces(facets, dimension(facets)-1) {
		l := around(facets, face)
		if len(l) < 2 {
			continue // of the rim
		}
		a, b := l[0], l[1]
		sign := -signTo(facets[a], face) * signTo(facets[b], face)
		out[a] = append(out[a], bond{b, sign})
		out[b] = append(out[b], bond{a, sign})
	}
	return out
}

// signTo a face of the facet's, which has one vertex less: by the place of that vertex.
func signTo(facet, face []int) int {
	place := slices.IndexFunc(facet, func(v int) bool { return !slices.Contains(face, v) })
	return 1 - 2*(place%2)
}

// signs of the facets of a manifold, each piece's first one having 1; false: there are none.
func signs(facets [][]int) ([]int, bool) {
	all := bonds(facets)
	out := make([]int, len(facets))
	var agrees func(i, sign int) bool
	agrees = func(i, sign int) bool {
		if out[i] != 0 {
			return out[i] == sign
		}
		out[i] = sign
		return !slices.ContainsFunc(all[i], func(b bond) bool { return !agrees(b.to, sign*b.sign) })
	}
	for i := range facets {
		if out[i] == 0 && !agrees(i, 1) { // a manifold's pieces hang together by such faces
			return nil, false
		}
	}
	return out, true
}
