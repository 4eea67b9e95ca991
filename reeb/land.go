package reeb

import (
	"cmp"
	"slices"

	"handlebody/api"
	"handlebody/cells"
)

// land: a complex with heights. Heights count by their order alone, so a vertex is told by its place: how many are lower.
type land struct {
	up     []spot
	things []thing
	near   [][]int // of each thing: all that are in one face with it
}

// spot: a vertex at its height.
type spot struct{ vertex, height int }

// thing: a vertex or an edge, by the places of its ends; those of a vertex are the same. Vertices have the first numbers, then edges, both in P20's order.
type thing struct{ low, high int }

// open a complex and heights that were handed in.
func open(c cells.Complex, h []int) (land, error) {
	points, err := cells.Faces(c, 0)
	if err != nil {
		return land{}, err
	}
	edges, err := cells.Faces(c, 1)
	if err != nil {
		return land{}, err
	}
	if len(h) != len(points) || slices.ContainsFunc(h, isTooGreat) {
		return land{}, api.ErrShape
	}
	up := sorted(points, h)
	if hasTwoAlike(up) {
		return land{}, api.ErrShape
	}
	faces := slices.Concat(points, edges)
	return land{up: up, things: things(faces, up), near: near(c.Facets, faces)}, nil
}

func isTooGreat(height int) bool { return height < -api.MaxEntry || height > api.MaxEntry }

// sorted vertices, from the lowest on.
func sorted(points [][]int, h []int) []spot {
	out := make([]spot, len(points))
	for i, p := range points {
		out[i] = spot{p[0], h[i]}
	}
	slices.SortFunc(out, func(a, b spot) int { return cmp.Compare(a.height, b.height) })
	return out
}

func hasTwoAlike(up []spot) bool {
	for i := 1; i < len(up); i++ {
		if up[i].height == up[i-1].height {
			return true
		}
	}
	return false
}

func things(faces [][]int, up []spot) []thing {
	var place [api.MaxVertex + 1]int
	for i, s := range up {
		place[s.vertex] = i
	}
	out := make([]thing, len(faces))
	for i, f := range faces {
		a, b := place[f[0]], place[f[len(f)-1]]
		out[i] = thing{min(a, b), max(a, b)}
	}
	return out
}

// near: where a face has two things, a facet has both.
func near(facets, faces [][]int) [][]int {
	number := map[[2]int]int{}
	for i, f := range faces {
		number[[2]int{f[0], f[len(f)-1]}] = i
	}
	out := make([][]int, len(faces))
	for _, facet := range facets {
		var in []int
		for i, v := range facet {
			for _, w := range facet[i:] {
				in = append(in, number[[2]int{v, w}])
			}
		}
		for _, i := range in {
			out[i] = append(out[i], in...)
		}
	}
	return out
}
