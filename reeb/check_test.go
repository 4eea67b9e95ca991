package reeb

import (
	"fmt"
	"math"
	"testing"

	"handlebody/api"
	"handlebody/cells"
)

// refused by all calls that take heights, with nothing else told, and nothing changed.
func refused(t *testing.T, c cells.Complex, h []int, want error) {
	t.Helper()
	before := fmt.Sprint(c, h)
	bare(t, Check(c, h), want, c, h)
	l, err := Merge(c, h)
	bare(t, err, want, c, h)
	b, err := Bars(c, h)
	bare(t, err, want, c, h)
	g, err := Reeb(c, h)
	bare(t, err, want, c, h)
	if len(l) > 0 || len(b) > 0 || len(g.Nodes) > 0 || len(g.Arcs) > 0 {
		t.Error(c, h, l, b, g)
	}
	if fmt.Sprint(c, h) != before {
		t.Error("changed", c, h, before)
	}
}

func facets(l ...[]int) cells.Complex { return cells.Complex{Facets: l} }

func edgesOfAll(vertices int) [][]int {
	var out [][]int
	for a := range vertices {
		for b := a + 1; b < vertices; b++ {
			out = append(out, []int{a, b})
		}
	}
	return out
}

func rising(n int) []int {
	out := make([]int, n)
	for i := range out {
		out[i] = i
	}
	return out
}

// TestWrongComplex: cells.Valid's errors, ahead of those of heights.
func TestWrongComplex(t *testing.T) {
	for name, c := range map[string]struct {
		c    cells.Complex
		want error
	}{
		"an empty facet":           {facets([]int{}), api.ErrFace},
		"a nil facet":              {facets([]int{0, 1}, nil), api.ErrFace},
		"a vertex twice":           {facets([]int{0, 0}), api.ErrFace},
		"a vertex below 0":         {facets([]int{-1, 0}), api.ErrFace},
		"a vertex too great":       {facets([]int{0, 100}), api.ErrFace},
		"the least number":         {facets([]int{math.MinInt}), api.ErrFace},
		"the greatest number":      {facets([]int{math.MaxInt}), api.ErrFace},
		"a dimension too great":    {facets(rising(8)), api.ErrBound},
		"too many faces":           {facets(edgesOfAll(35)...), api.ErrBound},
		"a falling facet":          {facets([]int{1, 0}), api.ErrShape},
		"facets in another order":  {facets([]int{1, 2}, []int{0, 1}), api.ErrShape},
		"a facet twice":            {facets([]int{0, 1}, []int{0, 1}), api.ErrShape},
		"a part of another facet":  {facets([]int{0, 1}, []int{1}), api.ErrShape},
		"a wrong one among others": {facets([]int{1}, []int{0}, []int{5, 5}), api.ErrFace},
	} {
		t.Run(name, func(t *testing.T) {
			for _, h := range [][]int{nil, {0}, {0, 1}, {0, 0}, {math.MinInt, 1}, {0, 1, 2}, rising(8), rising(35)} {
				refused(t, c.c, h, c.want)
			}
		})
	}
}

func TestWrongHeights(t *testing.T) {
	for name, c := range map[string]struct {
		text string
		h    []int
	}{
		"none":                          {"0 1", nil},
		"an empty list":                 {"0 1", []int{}},
		"one less":                      {"0 1; 2", []int{0, 1}},
		"one more":                      {"0 1; 2", []int{0, 1, 2, 3}},
		"one, of no vertices":           {"", []int{0}},
		"one for each number up to one": {"9", []int{0, 1, 2, 3, 4, 5, 6, 7, 8, 9}},
		"one for each face":             {"0 1", []int{0, 1, 2}},
		"too great":                     {"0 1", []int{0, 1048577}},
		"too great, the first":          {"0 1", []int{1048577, 0}},
		"too low":                       {"0 1", []int{0, -1048577}},
		"the greatest number":           {"0 1", []int{math.MaxInt, 0}},
		"the least number":              {"0 1", []int{0, math.MinInt}},
		"nearly the least number":       {"0 1", []int{0, math.MinInt + 1}},
		"alike":                         {"0 1", []int{0, 0}},
		"alike, no neighbours":          {"0; 1; 2", []int{5, 1, 5}},
		"alike, far from each other":    {"0 1; 1 2; 2 3; 3 4; 4 5", []int{-7, 3, 1, 2, 0, -7}},
		"alike at the bound":            {"3; 4", []int{1048576, 1048576}},
		"alike and too great":           {"3; 4", []int{1048577, 1048577}},
		"all alike":                     {sphere, []int{0, 0, 0, 0}},
	} {
		t.Run(name, func(t *testing.T) { refused(t, read(t, c.text), c.h, api.ErrShape) })
	}
}

func TestGoodHeights(t *testing.T) {
	for _, c := range []struct {
		text string
		h    []int
	}{
		{"", nil},
		{"", []int{}},
		{"0", []int{0}},
		{"99", []int{-1048576}},
		{"0 1", []int{1048576, -1048576}},
		{"0 1; 2", []int{0, -1, 1}},
		{"7 50; 98 99", []int{3, -3, 4, 2}},
		{torus, []int{6, 5, 4, 3, 2, 1, 0}},
	} {
		if err := Check(read(t, c.text), c.h); err != nil {
			t.Error(c.text, c.h, err)
		}
	}
}

// TestNothing: the complex without faces.
func TestNothing(t *testing.T) {
	for _, c := range []cells.Complex{{}, {Facets: [][]int{}}} {
		l, b, g := mergeOf(t, c, nil), barsOf(t, c, []int{}), reebOf(t, c, nil)
		if len(l) > 0 || len(b) > 0 || len(g.Nodes) > 0 || len(g.Arcs) > 0 {
			t.Error(l, b, g)
		}
		if loops, pieces := counted(t, g); loops != 0 || pieces != 0 {
			t.Error(loops, pieces)
		}
	}
}

// TestMemory: what is handed over is only read, not behind its length either, and what is answered is new.
func TestMemory(t *testing.T) {
	all := []int{3, 0, 2, 1, 0, 9}
	many := [][]int{{0, 1, 2}, {2, 3}, {9, 9}}
	c, h := cells.Complex{Facets: many[:2]}, all[:4]
	for range 2 {
		if err := Check(c, h); err != nil {
			t.Error(err)
		}
		l, b, g := mergeOf(t, c, h), barsOf(t, c, h), reebOf(t, c, h)
		if got := fmt.Sprint(l, b, g); got != "[{0 -1} {1 2} {2 0} {3 2}] [{0 0 1048577} {0 1 2}] {[1 3 3 2 0] [[0 2] [2 3] [1 3] [3 4]]}" {
			t.Error(got)
		}
		for i := range l {
			l[i] = Node{-5, -5}
		}
		for i := range b {
			b[i] = api.Bar{}
		}
		for i := range g.Nodes {
			g.Nodes[i] = -5
		}
		for i := range g.Arcs {
			g.Arcs[i] = [2]int{-5, -5}
		}
		if fmt.Sprint(all, many) != "[3 0 2 1 0 9] [[0 1 2] [2 3] [9 9]]" {
			t.Error(all, many)
		}
	}
}
