package index

import (
	"fmt"
	"math"
	"math/rand"
	"slices"
	"testing"
	"time"

	"handlebody/api"
	"handlebody/cells"
)

func TestIndices(t *testing.T) {
	for name, c := range map[string]struct {
		text string
		h    []int
		want string
	}{
		"no faces":                 {"", nil, "[]"},
		"no faces, an empty list":  {"", []int{}, "[]"},
		"a point":                  {"7", []int{-5}, "[1]"},
		"two points":               {"3; 99", []int{4, 2}, "[1 1]"},
		"an edge":                  {"0 1", []int{0, 1}, "[1 0]"},
		"an edge, falling":         {"0 1", []int{1, 0}, "[0 1]"},
		"from bound to bound":      {"0 1", []int{1048576, -1048576}, "[0 1]"},
		"a path, high between":     {"0 1; 1 2", []int{0, 2, 1}, "[1 -1 1]"},
		"a path, low between":      {"0 1; 1 2", []int{1, 0, 2}, "[0 1 0]"},
		"a circle":                 {circle, []int{2, 0, 1}, "[-1 1 0]"},
		"up and down":              {"0 1; 1 2; 2 3; 0 3", []int{0, 2, 1, 3}, "[1 -1 1 -1]"},
		"a triangle":               {"0 1 2", []int{2, 0, 1}, "[0 1 0]"},
		"a ball":                   {"0 1 2 3", []int{0, 1, 2, 3}, "[1 0 0 0]"},
		"a sphere":                 {sphere, []int{3, 1, 0, 2}, "[1 0 1 0]"},
		"a sphere of dimension 3":  {solid, []int{0, 1, 2, 3, 4}, "[1 0 0 0 -1]"},
		"a saddle":                 {"0 1 4; 1 2 4; 2 3 4; 0 3 4", []int{0, 3, 1, 4, 2}, "[1 0 1 0 -1]"},
		"a saddle of three":        {"0 1 6; 1 2 6; 2 3 6; 3 4 6; 4 5 6; 0 5 6", []int{0, 4, 1, 5, 2, 6, 3}, "[1 0 1 0 1 0 -2]"},
		"three leaves":             {"0 1; 0 2; 0 3", []int{3, 0, 1, 2}, "[-2 1 1 1]"},
		"vertices not in a row":    {"10 40; 20 40; 30 40", []int{1, 3, 2, 0}, "[0 0 0 1]"},
		"pages, the back on top":   {"0 1 2; 0 1 3; 0 1 4", []int{4, 3, 0, 1, 2}, "[0 -2 1 1 1]"},
		"a triangle and an edge":   {"0 1 2; 2 3", []int{0, 1, 3, 2}, "[1 0 -1 1]"},
		"a cone over four's edges": {"0 1 9; 0 2 9; 0 3 9; 1 2 9; 1 3 9; 2 3 9", []int{0, 1, 2, 3, 4}, "[1 0 -1 -2 3]"},
		"points above a triangle":  {"0 1 2; 3; 4", []int{0, 1, 2, 3, 4}, "[1 0 0 1 1]"},
	} {
		t.Run(name, func(t *testing.T) {
			x := read(t, c.text)
			l := indicesOf(t, x, c.h)
			if got := fmt.Sprint(l); got != c.want {
				t.Error(got, "want", c.want)
			}
			if want := plainIndices(t, x, c.h); !slices.Equal(l, want) {
				t.Error(l, "by the words", want)
			}
		})
	}
}

// TestIndicesByTheirWords, and POINCARE and HOPF, BANCHOFF: the sum is Euler.
func TestIndicesByTheirWords(t *testing.T) {
	r := rand.New(rand.NewSource(1500))
	minus := 0
	for range 600 {
		c := someComplex(t, r, 130)
		h := someHeights(t, r, c)
		got, want := indicesOf(t, c, h), plainIndices(t, c, h)
		if !slices.Equal(got, want) {
			t.Fatal(c, h, got, want)
		}
		if sumOf(got) != eulerOf(t, c) {
			t.Fatal(c, h, got)
		}
		if slices.Min(got) < -1 {
			minus++
		}
	}
	if minus < 30 {
		t.Error("too few", minus)
	}
}

// TestUpsideDown: of a closed surface an index is the same if all is turned over.
func TestUpsideDown(t *testing.T) {
	r := rand.New(rand.NewSource(1501))
	for _, text := range []string{sphere, octa, torus, plane} {
		for range 40 {
			c := renamed(t, r, read(t, text))
			h := someHeights(t, r, c)
			down := make([]int, len(h))
			for i := range h {
				down[i] = -h[i]
			}
			if l, other := indicesOf(t, c, h), indicesOf(t, c, down); !slices.Equal(l, other) {
				t.Fatal(c, h, l, other)
			}
		}
	}
}

func TestGreatIndices(t *testing.T) {
	start := time.Now()
	r := rand.New(rand.NewSource(1502))
	for _, sets := range [][][]int{edgesOfAll(34), edgesOfSteps(100), {rising(7), {90, 91, 92, 93, 94, 95, 96}, {80, 81, 82, 83, 84, 85, 86}}} {
		c := made(t, sets)
		for range 4 {
			h := someHeights(t, r, c)
			if l := indicesOf(t, c, h); sumOf(l) != eulerOf(t, c) || !slices.Equal(l, plainIndices(t, c, h)) {
				t.Error(c, h, l)
			}
		}
	}
	if d := time.Since(start); d > 20*time.Second {
		t.Error(d)
	}
}

// edgesOfSteps of 1 to 5 between so many vertices.
func edgesOfSteps(vertices int) [][]int {
	var out [][]int
	for a := range vertices {
		for b := a + 1; b < min(a+6, vertices); b++ {
			out = append(out, []int{a, b})
		}
	}
	return out
}

// wrongComplexes, and what cells.Valid says of them.
func wrongComplexes() map[string]struct {
	c    cells.Complex
	want error
} {
	type row = struct {
		c    cells.Complex
		want error
	}
	return map[string]row{
		"an empty facet":          {facets([]int{}), api.ErrFace},
		"a nil facet":             {facets([]int{0, 1}, nil), api.ErrFace},
		"a vertex twice":          {facets([]int{0, 0}), api.ErrFace},
		"a vertex below 0":        {facets([]int{-1, 0}), api.ErrFace},
		"a vertex too great":      {facets([]int{0, 100}), api.ErrFace},
		"the least number":        {facets([]int{math.MinInt}), api.ErrFace},
		"a dimension too great":   {facets(rising(8)), api.ErrBound},
		"too many faces":          {facets(edgesOfAll(35)...), api.ErrBound},
		"a falling facet":         {facets([]int{1, 0}), api.ErrShape},
		"facets in another order": {facets([]int{1, 2}, []int{0, 1}), api.ErrShape},
		"a facet twice":           {facets([]int{0, 1}, []int{0, 1}), api.ErrShape},
		"a part of another facet": {facets([]int{0, 1}, []int{1}), api.ErrShape},
	}
}

func TestWrongIndices(t *testing.T) {
	refused := func(t *testing.T, c cells.Complex, h []int, want error) {
		t.Helper()
		l, err := Indices(c, h)
		bare(t, err, want, c, h)
		if len(l) > 0 {
			t.Error(c, h, l)
		}
	}
	for name, c := range wrongComplexes() {
		t.Run(name, func(t *testing.T) {
			for _, h := range [][]int{nil, {0}, {0, 1}, {0, 0}, {math.MinInt, 1}, rising(8), rising(35)} {
				refused(t, c.c, h, c.want)
			}
		})
	}
	for name, c := range map[string]struct {
		text string
		h    []int
	}{
		"none":                {"0 1", nil},
		"one less":            {"0 1; 2", []int{0, 1}},
		"one more":            {"0 1; 2", []int{0, 1, 2, 3}},
		"one, of no vertices": {"", []int{0}},
		"too great":           {"0 1", []int{0, 1048577}},
		"too low":             {"0 1", []int{0, -1048577}},
		"the least number":    {"0 1", []int{0, math.MinInt}},
		"alike":               {"0; 1; 2", []int{5, 1, 5}},
	} {
		t.Run(name, func(t *testing.T) { refused(t, read(t, c.text), c.h, api.ErrShape) })
	}
}

func TestIndicesOnlyRead(t *testing.T) {
	unchanged(t, []int{0, 3, 1, 6, 2, 5, 4}, read(t, torus), func(h []int, c cells.Complex) {
		l := indicesOf(t, c, h)
		again := indicesOf(t, c, h)
		for i := range l {
			l[i] = 99
		}
		if slices.Contains(again, 99) {
			t.Error(again)
		}
	})
}
