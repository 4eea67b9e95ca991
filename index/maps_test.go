package index

import (
	"fmt"
	"math"
	"math/rand"
	"slices"
	"testing"
	"time"

	"handlebody/api"
	"handlebody/cells"
)

func TestGoodMaps(t *testing.T) {
	for name, c := range map[string]struct {
		a, b string
		f    []int
	}{
		"of nothing":              {"", circle, nil},
		"of nothing into nothing": {"", "", []int{}},
		"a point":                 {"7", "3 4; 99", []int{99}},
		"an edge to a vertex":     {"0 1", "5", []int{5, 5}},
		"an edge, turned":         {"0 1", "0 1", []int{1, 0}},
		"into a greater one":      {circle, "0 1 2 3", []int{3, 0, 1}},
		"a ball to its corner":    {"0 1 2 3 4 5 6", "98", []int{98, 98, 98, 98, 98, 98, 98}},
		"a ball to an edge":       {"0 1 2 3", "0 1 2; 2 9", []int{9, 2, 9, 2}},
		"twice around":            {six, circle, []int{0, 1, 2, 0, 1, 2}},
		"vertices not in a row":   {"10 20; 20 90", "3 50; 50 70", []int{3, 50, 70}},
		"to points apart":         {"1; 2; 3", "4; 5", []int{5, 4, 5}},
	} {
		t.Run(name, func(t *testing.T) {
			bare(t, Check(read(t, c.a), read(t, c.b), c.f), nil, c)
		})
	}
}

// refused by Check and Degree, as nothing else is asked ahead of it; at a place, or at none (below 0).
func refused(t *testing.T, a, b cells.Complex, f []int, want error, at int) {
	t.Helper()
	n, err := Degree(a, b, f)
	if n != 0 {
		t.Error(a, b, f, n)
	}
	for _, got := range []error{err, Check(a, b, f)} {
		if at < 0 {
			bare(t, got, want, a, b, f)
		} else {
			told(t, got, want, at, a, b, f)
		}
	}
}

// refusedAtHome: also as a map into itself.
func refusedAtHome(t *testing.T, c cells.Complex, f []int, want error, at int) {
	t.Helper()
	refused(t, c, c, f, want, at)
	l, err := Fixed(c, f)
	n, bad := Lefschetz(c, f)
	if len(l) > 0 || n != 0 {
		t.Error(c, f, l, n)
	}
	for _, got := range []error{err, bad} {
		if at < 0 {
			bare(t, got, want, c, f)
		} else {
			told(t, got, want, at, c, f)
		}
	}
}

func TestWrongComplexes(t *testing.T) {
	good := read(t, circle)
	for name, c := range wrongComplexes() {
		t.Run(name, func(t *testing.T) {
			for _, f := range [][]int{nil, {0}, {0, 1, 2}, {-1, 200, math.MinInt}, rising(8), rising(35)} {
				refusedAtHome(t, c.c, f, c.want, -1)
				refused(t, good, c.c, f, c.want, -1)
				refused(t, c.c, good, f, c.want, -1)
			}
			for _, other := range wrongComplexes() { // the first one's is told
				refused(t, c.c, other.c, nil, c.want, -1)
			}
		})
	}
}

func TestWrongMaps(t *testing.T) {
	for name, c := range map[string]struct {
		a, b string
		f    []int
		want error
		at   int
	}{
		"none":                       {circle, circle, nil, api.ErrShape, -1},
		"an empty list":              {circle, circle, []int{}, api.ErrShape, -1},
		"one less":                   {circle, circle, []int{0, 1}, api.ErrShape, -1},
		"one more":                   {circle, circle, []int{0, 1, 2, 0}, api.ErrShape, -1},
		"one for each face":          {circle, circle, []int{0, 1, 2, 0, 1, 2}, api.ErrShape, -1},
		"one, of nothing":            {"", circle, []int{0}, api.ErrShape, -1},
		"as many as the other":       {circle, six, []int{0, 1, 2, 3, 4, 5}, api.ErrShape, -1},
		"one less, and none of b's":  {circle, circle, []int{9, 9}, api.ErrShape, -1},
		"one for each number":        {"2", "2", []int{0, 1, 2}, api.ErrShape, -1},
		"none of b's":                {circle, circle, []int{0, 1, 3}, api.ErrFace, 2},
		"none of b's, twice":         {circle, circle, []int{0, 7, 9}, api.ErrFace, 1},
		"below 0":                    {circle, circle, []int{-1, 1, 2}, api.ErrFace, 0},
		"too great":                  {circle, circle, []int{0, 1, 100}, api.ErrFace, 2},
		"the least number":           {circle, circle, []int{0, math.MinInt, 1}, api.ErrFace, 1},
		"the greatest number":        {circle, circle, []int{math.MaxInt, 0, 1}, api.ErrFace, 0},
		"256 more than one of b's":   {circle, circle, []int{256, 1, 2}, api.ErrFace, 0},
		"into nothing":               {"0", "", []int{0}, api.ErrFace, 0},
		"its place, not its number":  {"50 60; 60 70", "50 60; 60 70", []int{50, 60, 1}, api.ErrFace, 2},
		"between b's numbers":        {"0 1", "0; 2", []int{0, 1}, api.ErrFace, 1},
		"no face, and none of b's":   {"0 1 2", "0; 1; 2", []int{0, 1, 3}, api.ErrFace, 2},
		"to points apart":            {"0 1", "0; 1", []int{0, 1}, api.ErrOrder, 2},
		"the way around not taken":   {circle, six, []int{0, 1, 2}, api.ErrOrder, 4},
		"the last edge":              {six, six, []int{0, 1, 2, 3, 2, 3}, api.ErrOrder, 7},
		"all edges, no triangle":     {"0 1 2", circle, []int{0, 1, 2}, api.ErrOrder, 6},
		"the triangle's third edge":  {"0 1 2", "0 1; 1 2", []int{0, 1, 2}, api.ErrOrder, 4},
		"a tetrahedron":              {"0 1 2 3", sphere, []int{3, 2, 1, 0}, api.ErrOrder, 14},
		"a late triangle":            {"0 1 2; 1 2 3", "0 1 2; 1 3; 2 3", []int{0, 1, 2, 3}, api.ErrOrder, 10},
		"an edge ahead of triangles": {"0 1 2; 3 4", "0 1; 0 2; 1 2; 3; 4", []int{0, 1, 2, 3, 4}, api.ErrOrder, 8},
		"vertices not in a row":      {"50 60; 50 70", "1 2; 3", []int{1, 2, 3}, api.ErrOrder, 4},
	} {
		t.Run(name, func(t *testing.T) {
			a, b := read(t, c.a), read(t, c.b)
			refused(t, a, b, c.f, c.want, c.at)
			if c.a == c.b {
				refusedAtHome(t, a, c.f, c.want, c.at)
			}
			if c.at < 0 {
				return
			}
			if want, at := plainCheck(t, a, b, c.f); want != c.want || at != c.at {
				t.Error("by the words", want, at)
			}
		})
	}
}

func TestCheckByItsWords(t *testing.T) {
	r := rand.New(rand.NewSource(1520))
	counts := map[error]int{}
	for i := range 1200 {
		a, b := someComplex(t, r, 130), someComplex(t, r, 130)
		if i%3 == 0 {
			b = a
		}
		goals := append(verticesOf(t, b), verticesOf(t, b)...)
		if i%2 == 0 {
			goals = append(goals, -1, 100, 55)
		}
		var f []int
		for range verticesOf(t, a) {
			f = append(f, goals[r.Intn(len(goals))])
		}
		want, at := plainCheck(t, a, b, f)
		counts[want]++
		got := Check(a, b, f)
		if want == nil {
			bare(t, got, nil, a, b, f)
		} else {
			told(t, got, want, at, a, b, f)
		}
	}
	if counts[nil] < 100 || counts[api.ErrFace] < 200 || counts[api.ErrOrder] < 200 {
		t.Error("too few", counts)
	}
}

func TestMapsOnlyRead(t *testing.T) {
	rounds := []int{1, 2, 3, 4, 5, 6, 0}
	unchanged(t, rounds, read(t, torus), func(f []int, c cells.Complex) {
		bare(t, Check(c, c, f), nil)
		if n := degreeOf(t, c, c, f); n != 1 {
			t.Error(n)
		}
		if l, n := fixedOf(t, c, f); len(l) > 0 || n != 0 {
			t.Error(l, n)
		}
	})
	unchanged(t, rising(7), read(t, torus), func(f []int, c cells.Complex) {
		l, n := fixedOf(t, c, f)
		text := fmt.Sprint(l)
		if len(l) != 42 || n != 0 {
			t.Error(l, n)
		}
		for i := range l {
			before := fmt.Sprint(l[i+1:])
			for k := range append(l[i], 88) {
				append(l[i], 88)[k] = 99
			}
			if fmt.Sprint(l[i+1:]) != before {
				t.Error("shared", l[i:])
			}
		}
		if again, _ := fixedOf(t, c, f); fmt.Sprint(again) != text {
			t.Error(again, text)
		}
	})
}

// TestGreatMaps: as many faces as there may be, in a short time.
func TestGreatMaps(t *testing.T) {
	start := time.Now()
	for _, sets := range [][][]int{edgesOfAll(34), edgesOfSteps(100), {rising(7), {90, 91, 92, 93, 94, 95, 96}, {80, 81, 82, 83, 84, 85, 86}}} {
		c := made(t, sets)
		all := facesOf(t, c)
		for range 10 {
			f := verticesOf(t, c)
			l, n := fixedOf(t, c, f)
			if n != eulerOf(t, c) || !slices.EqualFunc(l, all, slices.Equal[[]int]) {
				t.Error(c, n)
			}
		}
	}
	for _, c := range []cells.Complex{grid(t, 9, 11), ring(t, 100), prism(t, 7, 7)} {
		if n := degreeOf(t, c, c, verticesOf(t, c)); n != 1 {
			t.Error(len(c.Facets), n)
		}
	}
	if d := time.Since(start); d > 20*time.Second {
		t.Error(d)
	}
}

// ring of so many edges.
func ring(t *testing.T, n int) cells.Complex {
	t.Helper()
	var sets [][]int
	for i := range n {
		sets = append(sets, []int{i, (i + 1) % n})
	}
	return made(t, sets)
}

// grid: a torus of rows of squares, each cut in two.
func grid(t *testing.T, rows, cols int) cells.Complex {
	t.Helper()
	number := func(i, k int) int { return i%rows*cols + k%cols }
	var sets [][]int
	for i := range rows {
		for k := range cols {
			a, b, c, d := number(i, k), number(i, k+1), number(i+1, k), number(i+1, k+1)
			sets = append(sets, []int{a, b, d}, []int{a, c, d})
		}
	}
	return made(t, sets)
}

// prism: the join of two rings is a sphere of dimension 3.
func prism(t *testing.T, n, k int) cells.Complex {
	t.Helper()
	c, err := cells.Join(ring(t, n), ring(t, k))
	if err != nil {
		t.Fatal(n, k, err)
	}
	return c
}
