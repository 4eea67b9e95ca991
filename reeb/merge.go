package reeb

import "handlebody/api"

// none: no vertex comes next.
const none = -1

// next: of each place the one that comes next above it in its piece. A piece is known by its top, from which nothing comes next so far.
func (l land) next() []int {
	next := make([]int, len(l.up))
	for place := range next {
		next[place] = none
		for _, t := range l.things {
			if t.high != place {
				continue
			}
			top := t.low
			for next[top] != none {
				top = next[top]
			}
			if top != place { // else it was joined already
				next[top] = place
			}
		}
	}
	return next
}

// tree of the vertices, by place.
func (l land) tree() []Node {
	var out []Node
	for place, above := range l.next() {
		n := Node{Vertex: l.up[place].vertex, Parent: none}
		if above != none {
			n.Parent = l.up[above].vertex
		}
		out = append(out, n)
	}
	return out
}

// bars of pieces. A piece ends where its lowest place is not that of what comes next.
func (l land) bars() []api.Bar {
	next := l.next()
	lowest := lowestOfPieces(next)
	var out []api.Bar
	for top, above := range next {
		b := api.Bar{Birth: l.up[lowest[top]].height, Death: api.MaxEntry + 1}
		if above != none {
			if lowest[above] == lowest[top] {
				continue
			}
			b.Death = l.up[above].height
		}
		out = append(out, b)
	}
	return out
}

// lowestOfPieces: of each place the lowest one of the piece of which it is the top. What comes next is higher, so that each place knows its own when it is told on.
func lowestOfPieces(next []int) []int {
	lowest := make([]int, len(next))
	for place := range lowest {
		lowest[place] = place
	}
	for top, above := range next {
		if above != none {
			lowest[above] = min(lowest[above], lowest[top])
		}
	}
	return lowest
}
