package surface

import (
	"cmp"
	"slices"

	"handlebody/api"
)

// side of a polygon: its letter, its word, and its corners along the letter's arrow. A corner has the number of the side that begins there when the words are gone through.
type side struct{ letter, word, from, to int }

// edges of the surface: for each letter its sides, one or two.
func edges(w Words) [][]side {
	out := make([][]side, api.MaxLetter+1)
	first := 0
	for i, word := range w {
		for k, letter := range word {
			s := side{letter, i, first + k, first + (k+1)%len(word)}
			if letter < 0 {
				s.from, s.to = s.to, s.from
			}
			out[nameOf(letter)] = append(out[nameOf(letter)], s)
		}
		first += len(word)
	}
	return slices.DeleteFunc(out, func(l []side) bool { return len(l) == 0 })
}

// plan of a surface: what is one thing once the sides are glued.
type plan struct {
	edges   [][]side
	words   classes // words of one piece
	faces   classes // both faces of each polygon, 2 i and 2 i + 1: those that one reaches from each other over the glued sides
	corners classes // corners that are one vertex
	rims    classes // corners that are one vertex, or of one rim
}

func glued(w Words) plan {
	n := letters(w)
	p := plan{edges(w), newClasses(len(w)), newClasses(2 * len(w)), newClasses(n), newClasses(n)}
	for _, e := range p.edges {
		if len(e) == 2 {
			p.glue(e[0], e[1])
		} else {
			p.rims.join(e[0].from, e[0].to)
		}
	}
	return p
}

// glue two sides, arrows on each other.
func (p plan) glue(a, b side) {
	p.words.join(a.word, b.word)
	for _, c := range []classes{p.corners, p.rims} {
		c.join(a.from, b.from)
		c.join(a.to, b.to)
	}
	// Both gone through in one direction, one of the polygons must be turned over for the arrows to meet.
	turned := 0
	if a.letter == b.letter {
		turned = 1
	}
	p.faces.join(2*a.word, 2*b.word+turned)
	p.faces.join(2*a.word+1, 2*b.word+1-turned)
}

// pieces of the surface, in order.
func pieces(w Words) []Piece {
	p := glued(w)
	euler, rims := p.eulers(w), p.rimsOfPieces(w)
	var out []Piece
	for i := range w {
		if p.words.of(i) == i {
			turning := p.faces.of(2*i) != p.faces.of(2*i+1)
			out = append(out, ByEuler(turning, euler[i], rims[i]))
		}
	}
	slices.SortFunc(out, Compare)
	return out
}

// eulers of the pieces, each at its first word: vertices less edges and polygons.
func (p plan) eulers(w Words) []int {
	out := make([]int, len(w))
	corner := 0
	for i, word := range w {
		piece := p.words.of(i)
		out[piece]++
		for range word {
			if p.corners.of(corner) == corner {
				out[piece]++
			}
			corner++
		}
	}
	for _, e := range p.edges {
		out[p.words.of(e[0].word)]--
	}
	return out
}

// rimsOfPieces: how many rims each piece has, at its first word.
func (p plan) rimsOfPieces(w Words) []int {
	out := make([]int, len(w))
	seen := make([]bool, len(p.rims))
	for _, e := range p.edges {
		rim := p.rims.of(e[0].from)
		if len(e) == 1 && !seen[rim] {
			seen[rim] = true
			out[p.words.of(e[0].word)]++
		}
	}
	return out
}

// ByEuler: the piece whose vertices less edges and polygons are that number.
func ByEuler(turning bool, euler, rims int) Piece {
	genus := 2 - rims - euler
	if turning {
		genus /= 2
	}
	return Piece{turning, genus, rims}
}

// Compare pieces: Turning ones ahead, then by Genus, then by Rims.
func Compare(a, b Piece) int {
	if a.Turning != b.Turning {
		if a.Turning {
			return -1
		}
		return 1
	}
	return cmp.Or(cmp.Compare(a.Genus, b.Genus), cmp.Compare(a.Rims, b.Rims))
}

// classes of things that are numbers: each leads to a lesser one of its class, the least one to itself.
type classes []int

func newClasses(n int) classes {
	out := make(classes, n)
	for i := range out {
		out[i] = i
	}
	return out
}

// of which class a thing is: the least of the class.
func (c classes) of(i int) int {
	for c[i] != i {
		i = c[i]
	}
	return i
}

func (c classes) join(a, b int) {
	a, b = c.of(a), c.of(b)
	c[max(a, b)] = min(a, b)
}
