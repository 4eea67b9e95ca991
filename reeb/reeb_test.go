package reeb

import (
	"fmt"
	"math/rand"
	"slices"
	"testing"
	"time"

	"handlebody/api"
	"handlebody/cells"
)

func TestReeb(t *testing.T) {
	for name, c := range map[string]struct {
		text  string
		h     []int
		graph string
	}{
		"a point":                       {"7", []int{-5}, "{[7] []}"},
		"two points":                    {"3; 99", []int{4, 2}, "{[99 3] []}"},
		"an edge":                       {"0 1", []int{0, 1}, "{[0 1] [[0 1]]}"},
		"an edge, falling":              {"0 1", []int{1, 0}, "{[1 0] [[0 1]]}"},
		"from bound to bound":           {"0 1", []int{1048576, -1048576}, "{[1 0] [[0 1]]}"},
		"an edge beside a point":        {"0 1; 2", []int{0, 2, 1}, "{[0 2 2 1] [[0 2] [2 3]]}"},
		"a point below, one above":      {"0 1; 2; 3", []int{0, 2, -1, 3}, "{[2 0 1 3] [[1 2]]}"},
		"a circle":                      {circle, []int{2, 0, 1}, "{[1 2 2 0] [[0 2] [0 1] [2 3] [1 3]]}"},
		"its triangle":                  {"0 1 2", []int{2, 0, 1}, "{[1 2 0] [[0 1] [1 2]]}"},
		"a circle of four":              {"0 1; 1 2; 2 3; 0 3", []int{0, 1, 2, 3}, "{[0 1 1 2 2 3] [[0 1] [0 2] [2 4] [1 3] [4 5] [3 5]]}"},
		"up and down":                   {"0 1; 1 2; 2 3; 0 3", []int{0, 2, 1, 3}, "{[0 2 2 2 1 1 1 3] [[0 2] [0 3] [2 4] [3 5] [1 4] [1 6] [5 7] [6 7]]}"},
		"a triangle with a tail":        {"0 1 2; 2 3", []int{0, 1, 2, 3}, "{[0 1 2 3] [[0 1] [1 2] [2 3]]}"},
		"a triangle with a tail beside": {"0 1 2; 0 3", []int{0, 1, 3, 2}, "{[0 1 1 3 3 2] [[0 1] [0 2] [1 4] [2 3] [4 5]]}"},
		"two triangles on an edge":      {"0 1 2; 1 2 3", []int{0, 1, 2, 3}, "{[0 1 2 3] [[0 1] [1 2] [2 3]]}"},
		"two triangles on a vertex":     {"0 1 2; 2 3 4", []int{0, 4, 2, 1, 3}, "{[0 3 3 2 4 4 1] [[0 2] [2 3] [1 3] [3 5] [3 4] [5 6]]}"},
		"a sphere":                      {sphere, []int{0, 1, 2, 3}, "{[0 1 2 3] [[0 1] [1 2] [2 3]]}"},
		"a ball":                        {"0 1 2 3", []int{3, 1, 2, 0}, "{[3 1 2 0] [[0 1] [1 2] [2 3]]}"},
		"three triangles, no middle":    {"0 1 3; 0 2 3; 1 2 3", []int{0, 2, 3, 1}, "{[0 3 1 2] [[0 1] [1 2] [2 3]]}"},
		"vertices not in a row":         {"10 40; 20 40; 30 40", []int{1, 3, 2, 0}, "{[40 10 10 10 30 30 20] [[0 1] [0 2] [0 3] [2 5] [3 4] [5 6]]}"},
		"a fork up":                     {"0 1; 0 2; 0 3", []int{0, 1, 2, 3}, "{[0 1 1 1 2 2 3] [[0 1] [0 2] [0 3] [2 4] [3 5] [5 6]]}"},
		"two shells over each other":    {"0 1 2; 3 4 5", []int{0, 1, 2, 3, 4, 5}, "{[0 1 2 3 4 5] [[0 1] [1 2] [3 4] [4 5]]}"},
		"two shells side by side":       {"0 1 2; 3 4 5", []int{0, 2, 4, 1, 3, 5}, "{[0 3 3 1 1 4 4 2 2 5] [[0 2] [2 3] [1 4] [3 6] [4 5] [6 7] [5 8] [8 9]]}"},
	} {
		t.Run(name, func(t *testing.T) {
			x := read(t, c.text)
			g := reebOf(t, x, c.h)
			if got := fmt.Sprint(g); got != c.graph {
				t.Error(got, "want", c.graph)
			}
			if want := viewOf(t, x, c.h).reeb(t); !sameGraph(g, want) {
				t.Error(g, "by the words", want)
			}
		})
	}
}

func TestReebByItsWords(t *testing.T) {
	r := rand.New(rand.NewSource(1420))
	wide, loops, upon := 0, 0, 0 // levels of three pieces, graphs with loops, pieces that have the vertex and edges
	for i := range 900 {
		c := someComplex(t, r, 130)
		if i%3 == 0 {
			c = someGraph(t, r)
		}
		h := someHeights(t, r, c)
		w := viewOf(t, c, h)
		got, want := reebOf(t, c, h), w.reeb(t)
		if !sameGraph(got, want) {
			t.Fatal(c, h, got, want)
		}
		n, _ := counted(t, got)
		loops += min(n, 1)
		for k := 2; k < len(got.Nodes); k++ {
			if got.Nodes[k] == got.Nodes[k-2] {
				wide++
			}
		}
		for _, v := range w.up {
			if l := plainPieces(w.faces, append(w.crossing(w.at[v]-1, w.at[v]+1), []int{v})); len(l[0]) > 1 {
				upon++
			}
		}
	}
	if wide < 500 || loops < 100 || upon < 500 {
		t.Error("too few", wide, loops, upon)
	}
}

// field of triangles, so many vertices wide and high.
func field(t *testing.T, wide, high int) cells.Complex {
	t.Helper()
	var sets [][]int
	for y := range high - 1 {
		for x := range wide - 1 {
			a := y*wide + x
			sets = append(sets, []int{a, a + 1, a + wide + 1}, []int{a, a + wide, a + wide + 1})
		}
	}
	return made(t, sets)
}

func TestFields(t *testing.T) {
	r := rand.New(rand.NewSource(1421))
	for range 4 {
		c := field(t, 8, 8)
		h := r.Perm(64)
		got := reebOf(t, c, h)
		if want := viewOf(t, c, h).reeb(t); !sameGraph(got, want) {
			t.Fatal(h, got, want)
		}
		if loops, pieces := counted(t, got); loops != 0 || pieces != 1 {
			t.Error(h, loops, pieces)
		}
	}
}

// TestGreatReeb: as many vertices and faces as there may be, in a short time.
func TestGreatReeb(t *testing.T) {
	start := time.Now()
	all := edgesOfAll(34)
	g := reebOf(t, made(t, append(all, []int{50}, []int{51}, []int{52}, []int{53}, []int{99})), append(rising(34), 90, 91, 92, 93, 99))
	nodes, arcs := 5, 0
	for v := range 34 {
		nodes += 1 + v*(33-v)
		arcs += (v + 1) * (33 - v)
	}
	loops, pieces := counted(t, g)
	if len(g.Nodes) != nodes || len(g.Arcs) != arcs || loops != 34*33/2-33 || pieces != 6 {
		t.Error(len(g.Nodes), len(g.Arcs), nodes, arcs, loops, pieces)
	}
	c := field(t, 10, 10)
	g = reebOf(t, c, rand.New(rand.NewSource(1422)).Perm(100))
	if loops, pieces := counted(t, g); loops != 0 || pieces != 1 {
		t.Error(loops, pieces)
	}
	var sets [][]int
	for a := range 94 { // each edge crosses many levels
		sets = append(sets, []int{a, a + 6}, []int{a, a + 5}, []int{a, a + 3}, []int{a, a + 2}, []int{a, a + 1})
	}
	g = reebOf(t, made(t, sets), rising(100))
	if loops, pieces := counted(t, g); loops != 94*5-99 || pieces != 1 {
		t.Error(loops, pieces)
	}
	if d := time.Since(start); d > 20*time.Second {
		t.Error(d)
	}
}

// TestOrder: heights count by their order alone.
func TestOrder(t *testing.T) {
	r := rand.New(rand.NewSource(1423))
	for range 200 {
		c := someComplex(t, r, 130)
		h := someHeights(t, r, c)
		w := viewOf(t, c, h)
		places := make([]int, len(h))
		last := make([]int, len(h)) // as high as they may be
		for i, v := range w.vertices {
			places[i] = slices.Index(w.up, v)
			last[i] = api.MaxEntry - len(h) + 1 + places[i]
		}
		for _, other := range [][]int{places, last} {
			if !sameGraph(reebOf(t, c, h), reebOf(t, c, other)) || !slices.Equal(mergeOf(t, c, h), mergeOf(t, c, other)) {
				t.Fatal(c, h, other)
			}
		}
	}
}

// TestUpsideDown: levels have the same pieces, in the same order; arcs go the other way.
func TestUpsideDown(t *testing.T) {
	r := rand.New(rand.NewSource(1424))
	for range 300 {
		c := someComplex(t, r, 130)
		h := someHeights(t, r, c)
		down := make([]int, len(h))
		for i := range h {
			down[i] = -h[i]
		}
		g, other := reebOf(t, c, h), reebOf(t, c, down)
		names, others := names(g), names(other)
		slices.Sort(names)
		slices.Sort(others)
		if !slices.Equal(names, others) || !slices.Equal(arcNames(g, 0), arcNames(other, 1)) {
			t.Fatal(c, h, g, other)
		}
	}
}

// names of nodes: the vertex, and how many of the vertex are ahead.
func names(g Graph) []string {
	n := map[int]int{}
	var out []string
	for _, v := range g.Nodes {
		out = append(out, fmt.Sprint(v, n[v]))
		n[v]++
	}
	return out
}

// arcNames, sorted, of arcs from that end to the other.
func arcNames(g Graph, from int) []string {
	names := names(g)
	var out []string
	for _, a := range g.Arcs {
		out = append(out, names[a[from]]+"-"+names[a[1-from]])
	}
	slices.Sort(out)
	return out
}

// TestOnlyTriangles: greater faces join nothing that triangles do not.
func TestOnlyTriangles(t *testing.T) {
	r := rand.New(rand.NewSource(1425))
	for range 300 {
		c := someComplex(t, r, 200)
		h := someHeights(t, r, c)
		bare, err := cells.Skeleton(c, 2)
		if err != nil {
			t.Fatal(c, err)
		}
		if !sameGraph(reebOf(t, c, h), reebOf(t, bare, h)) {
			t.Fatal(c, h)
		}
	}
	g := reebOf(t, made(t, [][]int{rising(7)}), []int{3, 1, 0, 6, 4, 5, 2})
	if got := fmt.Sprint(g); got != "{[2 1 6 0 4 5 3] [[0 1] [1 2] [2 3] [3 4] [4 5] [5 6]]}" {
		t.Error(got)
	}
}
