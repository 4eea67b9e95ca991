package reeb

import (
	"errors"
	"math/rand"
	"slices"
	"testing"

	"handlebody/api"
	"handlebody/cells"
)

// What the program answers is held against the document's words, taken as they stand.

const (
	circle = "0 1; 0 2; 1 2"
	sphere = "0 1 2; 0 1 3; 0 2 3; 1 2 3"
	torus  = "0 1 3; 1 2 4; 2 3 5; 3 4 6; 4 5 0; 5 6 1; 6 0 2; 0 2 3; 1 3 4; 2 4 5; 3 5 6; 4 6 0; 5 0 1; 6 1 2"
	plane  = "0 1 2; 0 2 3; 0 3 4; 0 4 5; 0 1 5; 1 2 4; 2 3 5; 1 3 4; 2 4 5; 1 3 5"
	band   = "0 1 2; 1 2 3; 2 3 4; 0 3 4; 0 1 4"
)

func read(t *testing.T, text string) cells.Complex {
	t.Helper()
	c, err := cells.Read(text)
	if err != nil {
		t.Fatal(text, err)
	}
	return c
}

func made(t *testing.T, sets [][]int) cells.Complex {
	t.Helper()
	c, err := cells.Make(sets)
	if err != nil {
		t.Fatal(sets, err)
	}
	return c
}

// facesOf all dimensions, those of each in order.
func facesOf(t *testing.T, c cells.Complex) [][][]int {
	t.Helper()
	var out [][][]int
	for dim := range api.MaxDim + 1 {
		l, err := cells.Faces(c, dim)
		if err != nil {
			t.Fatal(c, err)
		}
		out = append(out, l)
	}
	return out
}

// view of a complex with heights, from which all is told.
type view struct {
	faces    [][][]int // of each dimension
	vertices []int     // in order
	up       []int     // from the lowest on
	at       map[int]int
	next     map[int][]int // neighbours
}

func viewOf(t *testing.T, c cells.Complex, h []int) view {
	t.Helper()
	w := view{faces: facesOf(t, c), at: map[int]int{}, next: map[int][]int{}}
	for i, f := range w.faces[0] {
		w.vertices = append(w.vertices, f[0])
		w.at[f[0]] = h[i]
	}
	for _, e := range w.faces[1] {
		w.next[e[0]] = append(w.next[e[0]], e[1])
		w.next[e[1]] = append(w.next[e[1]], e[0])
	}
	w.up = slices.SortedFunc(slices.Values(w.vertices), func(a, b int) int { return w.at[a] - w.at[b] })
	return w
}

// bare: the very error, not one that wraps it.
func bare(t *testing.T, got, want error, what ...any) {
	t.Helper()
	var f *api.Fault
	if got != want || errors.As(got, &f) {
		t.Error(append([]any{"got", got, "want", want, "of"}, what...)...)
	}
}

// someVertices, which need not follow each other.
func someVertices(r *rand.Rand, n int) []int {
	if r.Intn(2) == 0 {
		return r.Perm(n)
	}
	return r.Perm(api.MaxVertex + 1)[:n]
}

// someComplex of many kinds, of at most so many faces.
func someComplex(t *testing.T, r *rand.Rand, most int) cells.Complex {
	t.Helper()
	vertices := someVertices(r, 1+r.Intn(9))
	size := 2 + r.Intn(4)
	var sets [][]int
	var out cells.Complex
	for range 1 + r.Intn(14) {
		var set []int
		for _, i := range r.Perm(len(vertices))[:min(1+r.Intn(size), len(vertices))] {
			set = append(set, vertices[i])
		}
		sets = append(sets, set)
		next := made(t, sets)
		if len(slices.Concat(facesOf(t, next)...)) > most {
			break
		}
		out = next
	}
	return out
}

// someGraph: vertices and edges alone.
func someGraph(t *testing.T, r *rand.Rand) cells.Complex {
	t.Helper()
	vertices := someVertices(r, 1+r.Intn(12))
	var sets [][]int
	for _, v := range vertices {
		sets = append(sets, []int{v})
	}
	for range r.Intn(20) {
		a, b := vertices[r.Intn(len(vertices))], vertices[r.Intn(len(vertices))]
		if a != b {
			sets = append(sets, []int{a, b})
		}
	}
	return made(t, sets)
}

// someHeights, no two alike.
func someHeights(t *testing.T, r *rand.Rand, c cells.Complex) []int {
	t.Helper()
	l, err := cells.Faces(c, 0)
	if err != nil {
		t.Fatal(c, err)
	}
	reach := []int{len(l)/2 + 1, 50, api.MaxEntry}[r.Intn(3)]
	var out []int
	for len(out) < len(l) {
		if h := r.Intn(2*reach+1) - reach; !slices.Contains(out, h) {
			out = append(out, h)
		}
	}
	return out
}

// piece of a vertex among those up to a height.
func (w view) piece(vertex, upTo int) []int {
	out := []int{vertex}
	for i := 0; i < len(out); i++ {
		for _, u := range w.next[out[i]] {
			if w.at[u] <= upTo && !slices.Contains(out, u) {
				out = append(out, u)
			}
		}
	}
	return out
}

// merge: of each vertex the first one above it that has a neighbour in the piece in which it is, of those that are lower.
func (w view) merge() []Node {
	var out []Node
	for _, v := range w.vertices {
		n := Node{v, -1}
		for _, u := range w.up[slices.Index(w.up, v)+1:] {
			piece := w.piece(v, w.at[u]-1)
			if slices.ContainsFunc(w.next[u], func(x int) bool { return slices.Contains(piece, x) }) {
				n.Parent = u
				break
			}
		}
		out = append(out, n)
	}
	return out
}

// isLowest: has a vertex nothing lower in its piece, among those up to a height?
func (w view) isLowest(v, upTo int) bool {
	return !slices.ContainsFunc(w.piece(v, upTo), func(u int) bool { return w.at[u] < w.at[v] })
}

// bars of each vertex that is the lowest one of its piece when it comes, up to the first height at which it is not.
func (w view) bars() []api.Bar {
	var out []api.Bar
	for i, v := range w.up {
		if !w.isLowest(v, w.at[v]) {
			continue
		}
		b := api.Bar{Dim: 0, Birth: w.at[v], Death: 1048577}
		for _, u := range w.up[i:] {
			if !w.isLowest(v, w.at[u]) {
				b.Death = w.at[u]
				break
			}
		}
		out = append(out, b)
	}
	return out
}

func isPart(part, face []int) bool {
	for _, v := range part {
		if !slices.Contains(face, v) {
			return false
		}
	}
	return true
}

// plainPieces of things, edges and maybe a vertex: sorted, the vertex's ahead.
func plainPieces(faces [][][]int, things [][]int) [][][]int {
	var pieces [][][]int
	for _, x := range things {
		piece := [][]int{x}
		var rest [][][]int
		for _, p := range pieces {
			if meets(faces, p, x) {
				piece = append(piece, p...)
			} else {
				rest = append(rest, p)
			}
		}
		pieces = append(rest, piece)
	}
	ahead := func(a, b []int) int {
		if len(a) != len(b) {
			return len(a) - len(b)
		}
		return slices.Compare(a, b)
	}
	for _, p := range pieces {
		slices.SortFunc(p, ahead)
	}
	slices.SortFunc(pieces, func(a, b [][]int) int { return ahead(a[0], b[0]) })
	return pieces
}

// meets: has one face the thing and one of the piece's?
func meets(faces [][][]int, piece [][]int, x []int) bool {
	for _, y := range piece {
		for _, l := range faces {
			if slices.ContainsFunc(l, func(f []int) bool { return isPart(x, f) && isPart(y, f) }) {
				return true
			}
		}
	}
	return false
}

// crossing edges: one end at most so high, the other at least so high.
func (w view) crossing(below, above int) [][]int {
	var out [][]int
	for _, e := range w.faces[1] {
		if min(w.at[e[0]], w.at[e[1]]) <= below && max(w.at[e[0]], w.at[e[1]]) >= above {
			out = append(out, e)
		}
	}
	return out
}

// touches: has a node the edge, or the vertex at which it ends?
func touches(node [][]int, e []int) bool {
	return slices.ContainsFunc(node, func(x []int) bool { return slices.Equal(x, e) || len(x) == 1 && slices.Contains(e, x[0]) })
}

// reeb graph; of each arc all edges are asked what they touch.
func (w view) reeb(t *testing.T) Graph {
	t.Helper()
	var g Graph
	var nodes [][][]int // what each has
	for _, v := range w.up {
		for _, piece := range plainPieces(w.faces, append(w.crossing(w.at[v]-1, w.at[v]+1), []int{v})) {
			g.Nodes = append(g.Nodes, v)
			nodes = append(nodes, piece)
		}
	}
	touched := func(piece [][]int, v int) int {
		out := -1
		for i, node := range nodes {
			if g.Nodes[i] == v && slices.ContainsFunc(piece, func(e []int) bool { return touches(node, e) }) {
				if out >= 0 {
					t.Fatal("a piece touches two nodes", w, piece, v)
				}
				out = i
			}
		}
		return out
	}
	for i := 1; i < len(w.up); i++ {
		for _, piece := range plainPieces(w.faces, w.crossing(w.at[w.up[i-1]], w.at[w.up[i]])) {
			g.Arcs = append(g.Arcs, [2]int{touched(piece, w.up[i-1]), touched(piece, w.up[i])})
		}
	}
	return g
}

func sameGraph(a, b Graph) bool {
	return slices.Equal(a.Nodes, b.Nodes) && slices.Equal(a.Arcs, b.Arcs)
}

func reebOf(t *testing.T, c cells.Complex, h []int) Graph {
	t.Helper()
	g, err := Reeb(c, h)
	if err != nil {
		t.Fatal(c, h, err)
	}
	return g
}

func mergeOf(t *testing.T, c cells.Complex, h []int) []Node {
	t.Helper()
	l, err := Merge(c, h)
	if err != nil {
		t.Fatal(c, h, err)
	}
	return l
}

func barsOf(t *testing.T, c cells.Complex, h []int) []api.Bar {
	t.Helper()
	l, err := Bars(c, h)
	if err != nil {
		t.Fatal(c, h, err)
	}
	return l
}

// counted: loops and pieces of a graph.
func counted(t *testing.T, g Graph) (loops, pieces int) {
	t.Helper()
	loops, err := Loops(g)
	pieces, bad := Pieces(g)
	if err != nil || bad != nil {
		t.Fatal(g, err, bad)
	}
	return loops, pieces
}
