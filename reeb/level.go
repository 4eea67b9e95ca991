package reeb

import "slices"

// level of a land: what is there, and the pieces of this. Levels have numbers: twice its place at a vertex, one more in the gap above it.
type level struct {
	number int
	piece  map[int]int // of each thing that is there: the number of its piece
	least  []int       // of each piece: its least thing, by which pieces are in order
	first  int         // which node is the first piece, at a vertex
}

func (l land) level(number int) level {
	v := level{number: number, piece: map[int]int{}}
	for i := range l.things {
		if l.isNew(i, v) {
			v.piece[i] = len(v.least)
			v.least = append(v.least, i)
			l.spread(i, v)
		}
	}
	return v
}

// isNew: is a thing at a level, and of no piece so far?
func (l land) isNew(i int, v level) bool {
	_, ok := v.piece[i]
	return !ok && l.things[i].isAt(v.number)
}

// isAt a level: the vertex that is there, or an edge with one end below it, the other above.
func (t thing) isAt(number int) bool {
	if t.low == t.high {
		return 2*t.low == number
	}
	return 2*t.low < number && number < 2*t.high
}

// spread a piece from its least thing.
func (l land) spread(least int, v level) {
	reached := []int{least}
	for i := 0; i < len(reached); i++ {
		for _, next := range l.near[reached[i]] {
			if l.isNew(next, v) {
				v.piece[next] = v.piece[least]
				reached = append(reached, next)
			}
		}
	}
}

// node that an edge of the gap below or above comes to. One that does not cross the level ends at its vertex, whose piece is 0, as vertices are ahead of edges; and 0 is what the map says of what is not there.
func (v level) node(edge int) int { return v.first + v.piece[edge] }

// graph of all levels, from the lowest on.
func (l land) graph() Graph {
	var g Graph
	var below level
	for place, s := range l.up {
		here := l.level(2 * place)
		here.first = len(g.Nodes)
		g.Nodes = append(g.Nodes, slices.Repeat([]int{s.vertex}, len(here.least))...)
		for _, edge := range l.level(2*place - 1).least {
			g.Arcs = append(g.Arcs, [2]int{below.node(edge), here.node(edge)})
		}
		below = here
	}
	return g
}
