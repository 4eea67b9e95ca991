package reeb

import (
	"fmt"
	"math"
	"math/rand"
	"slices"
	"testing"
	"time"

	"handlebody/api"
)

func TestLoopsAndPieces(t *testing.T) {
	for name, c := range map[string]struct {
		g             Graph
		loops, pieces int
	}{
		"nothing":               {Graph{}, 0, 0},
		"empty lists":           {Graph{Nodes: []int{}, Arcs: [][2]int{}}, 0, 0},
		"a node":                {Graph{Nodes: []int{0}}, 0, 1},
		"three nodes":           {Graph{Nodes: []int{4, 4, 4}}, 0, 3},
		"an arc to itself":      {Graph{Nodes: []int{0}, Arcs: [][2]int{{0, 0}}}, 1, 1},
		"three of them":         {Graph{Nodes: []int{0, 1}, Arcs: [][2]int{{1, 1}, {0, 0}, {1, 1}}}, 3, 2},
		"an arc":                {Graph{Nodes: []int{0, 1}, Arcs: [][2]int{{0, 1}}}, 0, 1},
		"an arc, falling":       {Graph{Nodes: []int{0, 1}, Arcs: [][2]int{{1, 0}}}, 0, 1},
		"two arcs":              {Graph{Nodes: []int{0, 1}, Arcs: [][2]int{{0, 1}, {0, 1}}}, 1, 1},
		"there and back":        {Graph{Nodes: []int{0, 1}, Arcs: [][2]int{{0, 1}, {1, 0}}}, 1, 1},
		"a path and a node":     {Graph{Nodes: []int{0, 1, 2, 3}, Arcs: [][2]int{{0, 3}, {3, 1}}}, 0, 2},
		"a circle":              {Graph{Nodes: []int{0, 1, 2}, Arcs: [][2]int{{0, 1}, {1, 2}, {2, 0}}}, 1, 1},
		"two circles":           {Graph{Nodes: []int{0, 1, 2, 3, 4, 5}, Arcs: [][2]int{{5, 3}, {0, 2}, {1, 3}, {4, 2}, {5, 1}, {0, 4}}}, 2, 2},
		"all arcs of four":      {Graph{Nodes: []int{0, 1, 2, 3}, Arcs: [][2]int{{0, 1}, {0, 2}, {0, 3}, {1, 2}, {1, 3}, {2, 3}}}, 3, 1},
		"nodes of any vertices": {Graph{Nodes: []int{-1, 1000, math.MinInt, math.MaxInt}, Arcs: [][2]int{{0, 2}, {2, 0}, {3, 1}}}, 1, 2},
	} {
		t.Run(name, func(t *testing.T) {
			loops, pieces := counted(t, c.g)
			if loops != c.loops || pieces != c.pieces {
				t.Error(loops, pieces)
			}
		})
	}
}

func TestWrongArcs(t *testing.T) {
	for _, wrong := range []int{-1, -2, 3, 4, math.MinInt, math.MaxInt} {
		for _, arc := range [][2]int{{wrong, 0}, {2, wrong}, {wrong, wrong}} {
			for _, arcs := range [][][2]int{{arc}, {{0, 1}, arc}, {arc, {1, 2}}, {{2, 1}, {0, 1}, {2, 0}, {1, 1}, arc}} {
				g := Graph{Nodes: []int{7, 3, 4}, Arcs: arcs}
				before := fmt.Sprint(g)
				loops, err := Loops(g)
				bare(t, err, api.ErrShape, g)
				pieces, err := Pieces(g)
				bare(t, err, api.ErrShape, g)
				if loops != 0 || pieces != 0 || fmt.Sprint(g) != before {
					t.Error(before, loops, pieces, g)
				}
			}
		}
	}
	for _, n := range []int{0, 1, 2} {
		nodes := []int{0, 0, 0}
		g := Graph{Nodes: nodes[:n], Arcs: [][2]int{{0, n}}} // what lies behind the length is no node
		_, err := Loops(g)
		bare(t, err, api.ErrShape, g)
		_, err = Pieces(g)
		bare(t, err, api.ErrShape, g)
	}
}

// plainCount of pieces: by what is reached from each node that was not reached.
func plainCount(g Graph) int {
	reached := make([]bool, len(g.Nodes))
	out := 0
	for i := range g.Nodes {
		if reached[i] {
			continue
		}
		out++
		reached[i] = true
		for more := true; more; {
			more = false
			for _, a := range g.Arcs {
				if reached[a[0]] != reached[a[1]] {
					reached[a[0]], reached[a[1]], more = true, true, true
				}
			}
		}
	}
	return out
}

func TestSomeGraphs(t *testing.T) {
	r := rand.New(rand.NewSource(1430))
	for range 2000 {
		n := 1 + r.Intn(14)
		g := Graph{Nodes: r.Perm(n)}
		for range r.Intn(20) {
			g.Arcs = append(g.Arcs, [2]int{r.Intn(n), r.Intn(n)})
		}
		before := fmt.Sprint(g)
		loops, pieces := counted(t, g)
		want := plainCount(g)
		if pieces != want || loops != len(g.Arcs)-n+want || fmt.Sprint(g) != before {
			t.Fatal(before, loops, pieces, want)
		}
	}
}

// TestGreatGraphs: trees, in whatever order their arcs come, end soon.
func TestGreatGraphs(t *testing.T) {
	const n = 300000
	var path, star, heap [][2]int
	for i := range n - 1 {
		path = append(path, [2]int{i, i + 1})
		star = append(star, [2]int{n - 1, i})
		heap = append(heap, [2]int{i + 1, i / 2})
	}
	mix := rand.New(rand.NewSource(1431))
	start := time.Now()
	for _, arcs := range [][][2]int{path, star, heap} {
		for _, change := range []func(){
			func() {},
			func() { slices.Reverse(arcs) },
			func() { mix.Shuffle(n-1, func(i, k int) { arcs[i], arcs[k] = arcs[k], arcs[i] }) },
		} {
			change()
			if loops, pieces := counted(t, Graph{Nodes: make([]int, n), Arcs: arcs}); loops != 0 || pieces != 1 {
				t.Error(loops, pieces)
			}
			if loops, pieces := counted(t, Graph{Nodes: make([]int, n), Arcs: append(arcs[1:n-1:n-1], arcs[1])}); loops != 1 || pieces != 2 {
				t.Error(loops, pieces)
			}
		}
	}
	if d := time.Since(start); d > 20*time.Second {
		t.Error(d)
	}
}
