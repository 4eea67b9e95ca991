package cubes

import "handlebody/smith"

// The bytes of an image.
const (
	full  = '#'
	empty = '.'
)

// corner by how far it is from the left and from above; it stands for the square too whose upper left one it is.
type corner struct{ x, y int }

func (c corner) plus(x, y int) corner { return corner{c.x + x, c.y + y} }

// edge from its first corner to the other one.
type edge struct{ from, to corner }

// parts of an image, each once: corners and edges with their places in their order, squares in theirs.
type parts struct {
	corners map[corner]int
	edges   map[edge]int
	squares []corner
}

// partsOf goes through the corners in their order, so that whatever is met is the next one.
func partsOf(m Image) parts {
	p := parts{corners: map[corner]int{}, edges: map[edge]int{}}
	for y := range len(m) + 1 {
		for x := range width(m) + 1 {
			p.take(m, corner{x, y})
		}
	}
	return p
}

// take the corner and what it is the first corner of, as far as a full square around it has them.
func (p *parts) take(m Image, at corner) {
	here := isFull(m, at)
	left, above := isFull(m, at.plus(-1, 0)), isFull(m, at.plus(0, -1))
	if here || left || above || isFull(m, at.plus(-1, -1)) {
		number(p.corners, at)
	}
	if here || above {
		number(p.edges, edge{at, at.plus(1, 0)})
	}
	if here || left {
		number(p.edges, edge{at, at.plus(0, 1)})
	}
	if here {
		p.squares = append(p.squares, at)
	}
}

// number what is new by how many were there.
func number[K comparable](places map[K]int, key K) {
	n := len(places)
	places[key] = n
}

func width(m Image) int {
	if len(m) == 0 {
		return 0
	}
	return len(m[0])
}

// inside: is there a square of the image?
func inside(m Image, at corner) bool {
	return at.y >= 0 && at.y < len(m) && at.x >= 0 && at.x < width(m)
}

func isFull(m Image, at corner) bool { return inside(m, at) && m[at.y][at.x] == full }

func zeros(rows, cols int) smith.Matrix {
	return smith.Matrix{Rows: rows, Cols: cols, L: make([]int, rows*cols)}
}

// edgeEnds: the boundary of dimension 1.
func (p parts) edgeEnds() smith.Matrix {
	m := zeros(len(p.corners), len(p.edges))
	for e, k := range p.edges {
		m.L[p.corners[e.from]*m.Cols+k] = -1
		m.L[p.corners[e.to]*m.Cols+k] = 1
	}
	return m
}

// squareSides: the boundary of dimension 2.
func (p parts) squareSides() smith.Matrix {
	m := zeros(len(p.edges), len(p.squares))
	for k, at := range p.squares {
		right, below, across := at.plus(1, 0), at.plus(0, 1), at.plus(1, 1)
		m.L[p.edges[edge{at, right}]*m.Cols+k] = 1
		m.L[p.edges[edge{right, across}]*m.Cols+k] = 1
		m.L[p.edges[edge{below, across}]*m.Cols+k] = -1
		m.L[p.edges[edge{at, below}]*m.Cols+k] = -1
	}
	return m
}
