package reeb

import (
	"fmt"
	"math/rand"
	"slices"
	"testing"

	"handlebody/api"
	"handlebody/cells"
	"handlebody/persist"
)

func TestMergeAndBars(t *testing.T) {
	for name, c := range map[string]struct {
		text        string
		h           []int
		merge, bars string
	}{
		"a point":                        {"7", []int{-5}, "[{7 -1}]", "[{0 -5 1048577}]"},
		"two points":                     {"3; 99", []int{4, 2}, "[{3 -1} {99 -1}]", "[{0 2 1048577} {0 4 1048577}]"},
		"an edge":                        {"0 1", []int{0, 1}, "[{0 1} {1 -1}]", "[{0 0 1048577}]"},
		"an edge, falling":               {"0 1", []int{1, 0}, "[{0 -1} {1 0}]", "[{0 0 1048577}]"},
		"a path up":                      {"0 1; 1 2; 2 3", []int{-2, -1, 5, 6}, "[{0 1} {1 2} {2 3} {3 -1}]", "[{0 -2 1048577}]"},
		"a valley":                       {"0 1; 1 2", []int{1, 0, 2}, "[{0 2} {1 0} {2 -1}]", "[{0 0 1048577}]"},
		"a hill":                         {"0 1; 1 2", []int{0, 2, 1}, "[{0 1} {1 -1} {2 1}]", "[{0 0 1048577} {0 1 2}]"},
		"a hill, the right side lower":   {"0 1; 1 2", []int{1, 2, 0}, "[{0 1} {1 -1} {2 1}]", "[{0 0 1048577} {0 1 2}]"},
		"a fork of three":                {"0 9; 1 9; 2 9", []int{5, 3, 4, 8}, "[{0 9} {1 9} {2 9} {9 -1}]", "[{0 3 1048577} {0 4 8} {0 5 8}]"},
		"three edges to one piece":       {"0 1; 0 2; 0 3; 1 3; 2 3", []int{0, 1, 2, 3}, "[{0 1} {1 2} {2 3} {3 -1}]", "[{0 0 1048577}]"},
		"joined by another's side":       {"0 1; 0 2", []int{0, 1, 2}, "[{0 1} {1 2} {2 -1}]", "[{0 0 1048577}]"}, // 2 joins by 0, and 1 is in the piece, too
		"a circle":                       {circle, []int{0, 1, 2}, "[{0 1} {1 2} {2 -1}]", "[{0 0 1048577}]"},
		"a circle with two hills":        {"0 1; 0 3; 1 2; 2 3", []int{0, 9, 1, 8}, "[{0 3} {1 -1} {2 3} {3 1}]", "[{0 0 1048577} {0 1 8}]"},
		"the lower one lives, twice":     {"0 1; 1 2; 2 3; 3 4", []int{5, 10, 1, 8, 3}, "[{0 1} {1 -1} {2 3} {3 1} {4 3}]", "[{0 1 1048577} {0 3 8} {0 5 10}]"},
		"what was lower dies later":      {"0 1; 1 2; 2 3; 3 4", []int{0, 10, 1, 8, 3}, "[{0 1} {1 -1} {2 3} {3 1} {4 3}]", "[{0 0 1048577} {0 1 10} {0 3 8}]"},
		"two pieces":                     {"0 1; 1 2; 5 6; 6 7", []int{-9, 4, -3, -8, 6, -4}, "[{0 1} {1 -1} {2 1} {5 6} {6 -1} {7 6}]", "[{0 -9 1048577} {0 -8 1048577} {0 -4 6} {0 -3 4}]"},
		"from bound to bound":            {"0 1; 1 2", []int{-1048576, 1048576, 1048575}, "[{0 1} {1 -1} {2 1}]", "[{0 -1048576 1048577} {0 1048575 1048576}]"},
		"a point as high as may be":      {"0; 1", []int{1048576, 0}, "[{0 -1} {1 -1}]", "[{0 0 1048577} {0 1048576 1048577}]"},
		"a triangle counts by its edges": {"4 5 6", []int{2, 0, 1}, "[{4 -1} {5 6} {6 4}]", "[{0 0 1048577}]"},
		"vertices that are not in a row": {"10 40; 20 40; 30 40", []int{1, 3, 2, 0}, "[{10 30} {20 -1} {30 20} {40 10}]", "[{0 0 1048577}]"},
		"numbers go in order, not birth": {"1 3; 2 3", []int{7, 6, 9}, "[{1 3} {2 3} {3 -1}]", "[{0 6 1048577} {0 7 9}]"},
	} {
		t.Run(name, func(t *testing.T) {
			x := read(t, c.text)
			if got := fmt.Sprint(mergeOf(t, x, c.h)); got != c.merge {
				t.Error(got, "want", c.merge)
			}
			if got := fmt.Sprint(barsOf(t, x, c.h)); got != c.bars {
				t.Error(got, "want", c.bars)
			}
		})
	}
}

func TestMergeByItsWords(t *testing.T) {
	r := rand.New(rand.NewSource(1410))
	forks, ever := 0, 0
	for i := range 1500 {
		c := someComplex(t, r, 120)
		if i%2 == 0 {
			c = someGraph(t, r)
		}
		h := someHeights(t, r, c)
		w := viewOf(t, c, h)
		got, want := mergeOf(t, c, h), w.merge()
		if !slices.Equal(got, want) {
			t.Fatal(c, h, got, want)
		}
		bars, plain := barsOf(t, c, h), w.bars()
		if !slices.Equal(bars, plain) {
			t.Fatal(c, h, bars, plain)
		}
		for _, b := range bars {
			if b.Death == 1048577 {
				ever++
			} else {
				forks++
			}
		}
	}
	if forks < 500 || ever < 500 {
		t.Error("too few", forks, ever)
	}
}

// TestBarsAsSteps: the same bars as of steps, if each face comes with its highest vertex.
func TestBarsAsSteps(t *testing.T) {
	r := rand.New(rand.NewSource(1411))
	for range 300 {
		c := someComplex(t, r, 120)
		h := someHeights(t, r, c)
		w := viewOf(t, c, h)
		var f persist.Steps
		for _, face := range slices.Concat(w.faces...) {
			time := 0
			for _, v := range face {
				time = max(time, slices.Index(w.up, v))
			}
			f.Faces, f.Times = append(f.Faces, face), append(f.Times, time)
		}
		l, err := persist.Bars(f, 2)
		if err != nil {
			t.Fatal(c, err)
		}
		var want []api.Bar
		for _, b := range l {
			if b.Dim > 0 {
				continue
			}
			bar := api.Bar{Birth: w.at[w.up[b.Birth]], Death: api.MaxEntry + 1}
			if b.Death >= 0 {
				bar.Death = w.at[w.up[b.Death]]
			}
			want = append(want, bar)
		}
		if got := barsOf(t, c, h); !slices.Equal(got, want) {
			t.Fatal(c, h, got, want)
		}
	}
}

// TestTreeAndBars: leaves are births; a fork of so many ends one less; a vertex without a next one is its piece's highest.
func TestTreeAndBars(t *testing.T) {
	r := rand.New(rand.NewSource(1412))
	for range 400 {
		c := someGraph(t, r)
		h := someHeights(t, r, c)
		at := viewOf(t, c, h).at
		below := map[int]int{}
		var births, deaths, ends []int
		for _, n := range mergeOf(t, c, h) {
			below[n.Parent]++
			if n.Parent >= 0 && at[n.Parent] <= at[n.Vertex] {
				t.Fatal(c, h, n)
			}
		}
		for v, height := range at {
			if below[v] == 0 {
				births = append(births, height)
			}
			for range below[v] - 1 {
				deaths = append(deaths, height)
			}
		}
		bars := barsOf(t, c, h)
		var born []int
		for _, b := range bars {
			born = append(born, b.Birth)
			if b.Death <= 1048576 {
				ends = append(ends, b.Death)
			}
		}
		slices.Sort(births)
		slices.Sort(deaths)
		slices.Sort(ends)
		if !slices.Equal(born, births) || !slices.Equal(ends, deaths) || below[-1] != len(bars)-len(ends) {
			t.Fatal(c, h, bars, births, deaths)
		}
	}
}

// TestOnlyEdgesMerge: greater faces change nothing.
func TestOnlyEdgesMerge(t *testing.T) {
	r := rand.New(rand.NewSource(1413))
	for range 200 {
		c := someComplex(t, r, 200)
		h := someHeights(t, r, c)
		bare, err := cells.Skeleton(c, 1)
		if err != nil {
			t.Fatal(c, err)
		}
		if !slices.Equal(mergeOf(t, c, h), mergeOf(t, bare, h)) || !slices.Equal(barsOf(t, c, h), barsOf(t, bare, h)) {
			t.Fatal(c, h)
		}
	}
}

// TestGreatMerges: as many vertices and faces as there may be.
func TestGreatMerges(t *testing.T) {
	var path, star [][]int
	for v := range 99 {
		path = append(path, []int{v, v + 1})
		star = append(star, []int{v, 99})
	}
	comb := make([]int, 100) // every other vertex is a hill
	for v := range comb {
		comb[v] = v
		if v%2 == 1 {
			comb[v] = 1000 - v
		}
	}
	up := rising(100)
	for _, c := range []struct {
		sets [][]int
		h    []int
		bars int
	}{{path, up, 1}, {path, comb, 50}, {star, up, 99}, {edgesOfAll(34), up[:34], 1}} {
		x := made(t, c.sets)
		w := viewOf(t, x, c.h)
		if got, want := mergeOf(t, x, c.h), w.merge(); !slices.Equal(got, want) {
			t.Error(got, want)
		}
		got, want := barsOf(t, x, c.h), w.bars()
		if !slices.Equal(got, want) || len(got) != c.bars {
			t.Error(got, want, c.bars)
		}
	}
}
