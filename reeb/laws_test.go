package reeb

import (
	"math/rand"
	"slices"
	"testing"

	"handlebody/api"
	"handlebody/cells"
	"handlebody/homology"
)

// frees: of each dimension; those of dimension 1 at least.
func frees(t *testing.T, c cells.Complex) [api.MaxDim + 1]int {
	t.Helper()
	l, err := homology.Complex(c)
	if err != nil {
		t.Fatal(c, err)
	}
	groups, err := homology.Of(l)
	if err != nil {
		t.Fatal(c, err)
	}
	var out [api.MaxDim + 1]int
	for dim, g := range groups {
		out[dim] = g.Free
	}
	return out
}

// TestAlways: P144.
func TestAlways(t *testing.T) {
	r := rand.New(rand.NewSource(1440))
	most := 0 // that have as many loops as they may, and some
	for i := range 500 {
		c := someComplex(t, r, 130)
		if i%3 == 0 {
			c = someGraph(t, r)
		}
		free := frees(t, c)
		for range 3 {
			h := someHeights(t, r, c)
			loops, pieces := counted(t, reebOf(t, c, h))
			if pieces != free[0] || loops > free[1] || loops < 0 {
				t.Fatal(c, h, loops, pieces, free)
			}
			if i%3 == 0 && loops != free[1] { // a graph is its own graph of heights
				t.Fatal(c, h, loops, free)
			}
			if loops > 0 && loops == free[1] {
				most++
			}
		}
	}
	if most < 200 {
		t.Error("too few", most)
	}
}

// orders of the numbers below n.
func orders(n int) [][]int {
	if n == 0 {
		return [][]int{nil}
	}
	var out [][]int
	for _, l := range orders(n - 1) {
		for i := range n {
			out = append(out, slices.Insert(slices.Clone(l), i, n-1))
		}
	}
	return out
}

// simple: of each vertex of a surface without rims the lower neighbours are at most two pieces of its link.
func simple(t *testing.T, c cells.Complex, h []int) bool {
	t.Helper()
	w := viewOf(t, c, h)
	for _, v := range w.vertices {
		link, err := cells.Link(c, []int{v})
		if err != nil {
			t.Fatal(c, err)
		}
		changes := 0
		for _, e := range link.Facets {
			if (w.at[e[0]] < w.at[v]) != (w.at[e[1]] < w.at[v]) {
				changes++
			}
		}
		if changes > 4 {
			return false
		}
	}
	return true
}

// TestTorus: all orders of its seven vertices. A surface that turns has as many loops as its genus, unless more than two pieces meet at once.
func TestTorus(t *testing.T) {
	c := read(t, torus)
	simples, others := 0, 0
	for _, h := range orders(7) {
		loops, pieces := counted(t, reebOf(t, c, h))
		if pieces != 1 || loops > 1 {
			t.Fatal(h, loops, pieces)
		}
		if !simple(t, c, h) {
			others++
			continue
		}
		simples++
		if loops != 1 {
			t.Fatal(h, loops)
		}
	}
	if simples < 100 || others < 100 {
		t.Error("too few", simples, others)
	}
}

// TestPlane: all orders of its six vertices; its first group is finite.
func TestPlane(t *testing.T) {
	c := read(t, plane)
	for _, h := range orders(6) {
		if loops, pieces := counted(t, reebOf(t, c, h)); pieces != 1 || loops != 0 {
			t.Fatal(h, loops, pieces)
		}
	}
}

// TestBand: all orders of its five vertices; it is a circle, made wider.
func TestBand(t *testing.T) {
	c := read(t, band)
	sum := 0
	for _, h := range orders(5) {
		loops, pieces := counted(t, reebOf(t, c, h))
		if pieces != 1 || loops > 1 {
			t.Fatal(h, loops, pieces)
		}
		sum += loops
	}
	if sum == 120 {
		t.Error("the band is too narrow")
	}
}

// double torus: two without a triangle, along its sides.
func double(t *testing.T) cells.Complex {
	t.Helper()
	one := read(t, torus).Facets
	var sets [][]int
	for _, f := range one {
		if slices.Equal(f, []int{0, 1, 3}) {
			continue
		}
		var other []int
		for _, v := range f {
			other = append(other, []int{0, 1, 7, 3, 8, 9, 10}[v])
		}
		sets = append(sets, f, other)
	}
	return made(t, sets)
}

// ring: a torus of so many vertices each way; turned over, if shift says so, it is Klein's bottle.
func ring(t *testing.T, wide, high int, turned bool) cells.Complex {
	t.Helper()
	at := func(x, y int) int {
		if turned && y == high {
			x = 2*wide - x
		}
		return y%high*wide + x%wide
	}
	var sets [][]int
	for y := range high {
		for x := range wide {
			a, b, c, d := at(x, y), at(x+1, y), at(x, y+1), at(x+1, y+1)
			sets = append(sets, []int{a, b, d}, []int{a, c, d})
		}
	}
	return made(t, sets)
}

func TestSurfaces(t *testing.T) {
	r := rand.New(rand.NewSource(1441))
	for _, s := range []struct {
		c           cells.Complex
		turning     bool
		free, loops int
		tries       int
	}{
		{read(t, sphere), true, 0, 0, 24},
		{ring(t, 5, 5, false), true, 2, 1, 60},
		{ring(t, 3, 8, false), true, 2, 1, 60},
		{double(t), true, 4, 2, 1500},
		{ring(t, 5, 5, true), false, 1, 1, 60},
	} {
		if got := frees(t, s.c); got[1] != s.free || got[2] == 1 != s.turning {
			t.Fatal(s, got)
		}
		n := len(viewOf(t, s.c, make([]int, 100)).vertices)
		simples := 0
		for range s.tries {
			h := r.Perm(n)
			loops, pieces := counted(t, reebOf(t, s.c, h))
			if pieces != 1 || loops > s.loops {
				t.Fatal(s, h, loops, pieces)
			}
			if s.turning && simple(t, s.c, h) {
				simples++
				if loops != s.loops {
					t.Fatal(s, h, loops)
				}
			}
		}
		if s.turning && simples == 0 {
			t.Error("none is simple", s.loops, n)
		}
	}
}

// TestStanding: a torus that stands, of nine circles one behind the other.
func TestStanding(t *testing.T) {
	c := ring(t, 4, 9, false)
	round := []int{0, 10, 30, 40, 50, 45, 35, 25, 15} // up on one side, down on the other
	var h []int
	for y := range 9 {
		for x := range 4 {
			h = append(h, 1000*round[y]+[]int{0, 300, 600, 200}[x])
		}
	}
	g := reebOf(t, c, h)
	if loops, pieces := counted(t, g); loops != 1 || pieces != 1 || len(g.Nodes) <= 36 {
		t.Error(loops, pieces, g)
	}
}

// TestCones: what can be drawn together to a point has no loops.
func TestCones(t *testing.T) {
	r := rand.New(rand.NewSource(1442))
	for range 100 {
		c := someGraph(t, r)
		cone, err := cells.Cone(c)
		if err != nil {
			continue // vertex 99 has none above it
		}
		h := someHeights(t, r, cone)
		if loops, pieces := counted(t, reebOf(t, cone, h)); loops != 0 || pieces != 1 {
			t.Fatal(cone, h, loops, pieces)
		}
	}
}
