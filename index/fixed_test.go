package index

import (
	"fmt"
	"math/rand"
	"slices"
	"testing"

	"handlebody/cells"
)

func TestFixed(t *testing.T) {
	for name, c := range map[string]struct {
		text  string
		f     []int
		n     int
		fixed string
	}{
		"nothing":                         {"", nil, 0, "[]"},
		"a point":                         {"7", []int{7}, 1, "[[7]]"},
		"points that change places":       {"3; 8", []int{8, 3}, 0, "[]"},
		"an edge, turned":                 {"0 1", []int{1, 0}, 1, "[[0 1]]"},
		"an edge to its end":              {"0 1", []int{1, 1}, 1, "[[1]]"},
		"a path, turned":                  {"0 1; 1 2", []int{2, 1, 0}, 1, "[[1]]"},
		"a longer path, turned":           {"0 1; 1 2; 2 3", []int{3, 2, 1, 0}, 1, "[[1 2]]"},
		"a circle":                        {circle, []int{0, 1, 2}, 0, "[[0] [1] [2] [0 1] [0 2] [1 2]]"},
		"a circle, on by one":             {circle, []int{1, 2, 0}, 0, "[]"},
		"a circle, mirrored":              {circle, []int{1, 0, 2}, 2, "[[2] [0 1]]"},
		"a circle, to a point":            {circle, []int{1, 1, 1}, 1, "[[1]]"},
		"six, opposite":                   {six, []int{3, 4, 5, 0, 1, 2}, 0, "[]"},
		"six, mirrored at edges":          {six, []int{1, 0, 5, 4, 3, 2}, 2, "[[0 1] [3 4]]"},
		"a triangle, on by one":           {"0 1 2", []int{1, 2, 0}, 1, "[[0 1 2]]"},
		"a triangle, two changed":         {"0 1 2", []int{0, 2, 1}, 1, "[[0] [1 2] [0 1 2]]"},
		"a triangle onto an edge":         {"0 1 2", []int{1, 0, 0}, 1, "[[0 1]]"},
		"a ball, two and two":             {"0 1 2 3", []int{1, 0, 3, 2}, 1, "[[0 1] [2 3] [0 1 2 3]]"},
		"a ball, four around":             {"0 1 2 3", []int{1, 2, 3, 0}, 1, "[[0 1 2 3]]"},
		"a sphere":                        {sphere, []int{0, 1, 2, 3}, 2, "[[0] [1] [2] [3] [0 1] [0 2] [0 3] [1 2] [1 3] [2 3] [0 1 2] [0 1 3] [0 2 3] [1 2 3]]"},
		"a sphere, two changed":           {sphere, []int{1, 0, 2, 3}, 0, "[[2] [3] [0 1] [2 3] [0 1 2] [0 1 3]]"},
		"a sphere, four around":           {sphere, []int{1, 2, 3, 0}, 0, "[]"},
		"a sphere, two and two":           {sphere, []int{1, 0, 3, 2}, 2, "[[0 1] [2 3]]"},
		"a sphere, three around":          {sphere, []int{0, 2, 3, 1}, 2, "[[0] [1 2 3]]"},
		"opposite points":                 {octa, []int{3, 5, 4, 0, 2, 1}, 0, "[]"},
		"a torus, turned":                 {torus, []int{1, 2, 3, 4, 5, 6, 0}, 0, "[]"},
		"a torus, turned by half":         {torus, []int{0, 6, 5, 4, 3, 2, 1}, 4, "[[0] [1 6] [2 5] [3 4]]"},
		"a torus, times two":              {torus, []int{0, 2, 4, 6, 1, 3, 5}, 3, "[[0] [1 2 4] [3 5 6]]"},
		"vertices not in a row":           {"10 20; 20 90", []int{90, 20, 10}, 1, "[[20]]"},
		"a circle and a point apart":      {"0 1; 0 2; 1 2; 9", []int{0, 2, 1, 9}, 3, "[[0] [9] [1 2]]"},
		"three leaves around":             {"0 1; 0 2; 0 3", []int{0, 2, 3, 1}, 1, "[[0]]"},
		"a point of an edge elsewhere on": {"0 1; 2 3", []int{2, 3, 2, 3}, 1, "[[2] [3] [2 3]]"},
	} {
		t.Run(name, func(t *testing.T) {
			x := read(t, c.text)
			l, n := fixedOf(t, x, c.f)
			if fmt.Sprint(l) != c.fixed || n != c.n {
				t.Error(l, n, "want", c.fixed, c.n)
			}
			if want, sum := plainFixed(t, x, c.f); fmt.Sprint(l) != fmt.Sprint(want) || n != sum {
				t.Error(l, n, "by the words", want, sum)
			}
		})
	}
}

// TestFixedByItsWords, and P155: if Lefschetz is not 0, there is a fixed face.
func TestFixedByItsWords(t *testing.T) {
	r := rand.New(rand.NewSource(1540))
	counts := map[int]int{}
	greater, turned := 0, 0 // fixed faces of dimension 2, and such whose vertices change places
	for range 1000 {
		c := someComplex(t, r, 130)
		f := someMap(t, r, c, c)
		if f == nil {
			continue
		}
		l, n := fixedOf(t, c, f)
		want, sum := plainFixed(t, c, f)
		if !slices.EqualFunc(l, want, slices.Equal[[]int]) || n != sum {
			t.Fatal(c, f, l, n, want, sum)
		}
		if n != 0 && len(l) == 0 {
			t.Fatal(c, f, n)
		}
		counts[n]++
		for _, face := range l {
			if len(face) == 3 {
				greater++
			}
			if len(face) > 1 && !slices.Equal(imagesOf(verticesOf(t, c), f, face), face) {
				turned++
			}
		}
	}
	if counts[0] < 20 || counts[1] < 50 || counts[2] < 20 || greater < 20 || turned < 50 {
		t.Error("too few", counts, greater, turned)
	}
}

// TestLefschetzOfSame: P155: of the identity it is Euler.
func TestLefschetzOfSame(t *testing.T) {
	r := rand.New(rand.NewSource(1541))
	counts := map[int]int{}
	for range 300 {
		c := someComplex(t, r, 130)
		l, n := fixedOf(t, c, verticesOf(t, c))
		if n != eulerOf(t, c) || !slices.EqualFunc(l, facesOf(t, c), slices.Equal[[]int]) {
			t.Fatal(c, l, n)
		}
		counts[n]++
	}
	if counts[0] < 5 || counts[1] < 20 || counts[2] < 5 {
		t.Error("too few", counts)
	}
}

// someCollapsible: faces put one behind the other onto what is there, each by all its sides but one, so that they can be collapsed again.
func someCollapsible(t *testing.T, r *rand.Rand) cells.Complex {
	t.Helper()
	names := someVertices(r, 7)
	sets := [][]int{{names[0]}}
	for k := 1; k < len(names); k++ { // a new vertex over a part of a face
		onto := sets[r.Intn(len(sets))]
		onto = onto[:min(1+r.Intn(len(onto)), 5)]
		sets = append(sets, append(slices.Clone(onto), names[k]))
	}
	return made(t, sets)
}

// TestBrouwer: P155: of a complex that can be collapsed to a point it is 1, for each map.
func TestBrouwer(t *testing.T) {
	r := rand.New(rand.NewSource(1542))
	moved := 0
	for range 400 {
		c := someCollapsible(t, r)
		f := someMap(t, r, c, c)
		if f == nil {
			continue
		}
		l, n := fixedOf(t, c, f)
		if n != 1 || len(l) == 0 {
			t.Fatal(c, f, l, n)
		}
		if len(l[0]) > 1 {
			moved++
		}
	}
	if moved < 20 {
		t.Error("too few", moved)
	}
	for range 200 { // cones over anything
		base := someComplex(t, r, 60)
		c, err := cells.Cone(base)
		if err != nil {
			continue // no vertex is left for the point
		}
		if f := someMap(t, r, c, c); f != nil {
			if _, n := fixedOf(t, c, f); n != 1 {
				t.Fatal(c, f, n)
			}
		}
	}
}

// TestDegreeAndLefschetz: of a sphere's map it is 1 and the degree, which is negated, if the dimension is odd.
func TestDegreeAndLefschetz(t *testing.T) {
	r := rand.New(rand.NewSource(1543))
	counts := map[int]int{}
	for i := range 400 {
		c := [][]cells.Complex{
			{ring(t, 3), ring(t, 4), ring(t, 6)},
			{read(t, sphere), read(t, octa)},
			{read(t, solid), prism(t, 3, 3)},
		}[i%3][r.Intn(2)]
		c = renamed(t, r, c)
		f := someMap(t, r, c, c)
		if i%2 == 0 && len(c.Facets) == len(c.Facets[0])+1 {
			f = someOrder(t, r, c, c)
		}
		if f == nil {
			continue
		}
		degree := degreeOf(t, c, c, f)
		want := 1 + degree
		if i%3 != 1 {
			want = 1 - degree
		}
		if l, n := fixedOf(t, c, f); n != want {
			t.Fatal(c, f, l, n, want)
		}
		counts[degree]++
	}
	if counts[0] < 50 || counts[1] < 20 || counts[-1] < 20 {
		t.Error("too few", counts)
	}
}

// TestManyFixed: of points apart, by how many stay.
func TestManyFixed(t *testing.T) {
	r := rand.New(rand.NewSource(1544))
	var sets [][]int
	for v := range 100 {
		sets = append(sets, []int{v})
	}
	c := made(t, sets)
	for range 20 {
		var f []int
		stay := 0
		for v := range 100 {
			f = append(f, r.Intn(100))
			if r.Intn(3) == 0 {
				f[v] = v
			}
			if f[v] == v {
				stay++
			}
		}
		if l, n := fixedOf(t, c, f); n != stay || len(l) != stay {
			t.Error(f, l, n)
		}
	}
}
