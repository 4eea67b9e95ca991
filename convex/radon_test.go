package convex

import (
	"fmt"
	"math/big"
	"math/rand"
	"slices"
	"testing"

	"handlebody/api"
)

// between two ends: of the points a + t (b - a), those with a coordinate from low to high.
func between(a, b *big.Rat, ends [2]int, from, to *big.Rat) (*big.Rat, *big.Rat, bool) {
	low, high := big.NewRat(int64(min(ends[0], ends[1])), 1), big.NewRat(int64(max(ends[0], ends[1])), 1)
	step := sub(b, a)
	if step.Sign() == 0 {
		return from, to, low.Cmp(a) <= 0 && a.Cmp(high) <= 0
	}
	first, last := new(big.Rat).Quo(sub(low, a), step), new(big.Rat).Quo(sub(high, a), step)
	if step.Sign() < 0 {
		first, last = last, first
	}
	if first.Cmp(from) > 0 {
		from = first
	}
	if last.Cmp(to) < 0 {
		to = last
	}
	return from, to, from.Cmp(to) <= 0
}

// plainSides: the least common point of two sides.
func plainSides(a, b, c, d api.Spot) (exact, bool) {
	from, to, ok := big.NewRat(0, 1), big.NewRat(1, 1), true
	p, q := ofSpot(a), ofSpot(b)
	start, end := left(ofSpot(c), ofSpot(d), p), left(ofSpot(c), ofSpot(d), q)
	switch grows := sub(end, start); {
	case grows.Sign() != 0: // one point is on the line through c and d
		from = new(big.Rat).Quo(new(big.Rat).Neg(start), grows)
		to = from
		if from.Sign() < 0 || from.Cmp(big.NewRat(1, 1)) > 0 {
			return exact{}, false
		}
	case start.Sign() != 0:
		return exact{}, false
	}
	if from, to, ok = between(p.x, q.x, [2]int{c.X, d.X}, from, to); !ok {
		return exact{}, false
	}
	if from, to, ok = between(p.y, q.y, [2]int{c.Y, d.Y}, from, to); !ok {
		return exact{}, false
	}
	var ends []exact
	for _, t := range []*big.Rat{from, to} {
		ends = append(ends, exact{add(p.x, mul(t, sub(q.x, p.x))), add(p.y, mul(t, sub(q.y, p.y)))})
	}
	return slices.MinFunc(ends, func(e, f exact) int {
		if x := e.x.Cmp(f.x); x != 0 {
			return x
		}
		return e.y.Cmp(f.y)
	}), true
}

// plainRadon: one against three, or two against two, as the order has them.
func plainRadon(p [4]api.Spot) ([]int, Point) {
	one := func(i, a, b, c int) bool { return plainIn([]api.Spot{p[a], p[b], p[c]}, ofSpot(p[i])) }
	spot := func(i int) Point { return ofSpot(p[i]).told() }
	if one(0, 1, 2, 3) {
		return []int{0}, spot(0)
	}
	if e, ok := plainSides(p[0], p[1], p[2], p[3]); ok {
		return []int{0, 1}, e.told()
	}
	if one(3, 0, 1, 2) {
		return []int{0, 1, 2}, spot(3)
	}
	if one(2, 0, 1, 3) {
		return []int{0, 1, 3}, spot(2)
	}
	if e, ok := plainSides(p[0], p[2], p[1], p[3]); ok {
		return []int{0, 2}, e.told()
	}
	if one(1, 0, 2, 3) {
		return []int{0, 2, 3}, spot(1)
	}
	if e, ok := plainSides(p[0], p[3], p[1], p[2]); ok {
		return []int{0, 3}, e.told()
	}
	return nil, Point{}
}

func holdsRadon(t *testing.T, p [4]api.Spot) []int {
	t.Helper()
	set, where, err := Radon(p)
	wantSet, want := plainRadon(p)
	if !slices.Equal(set, wantSet) || where != want || err != nil || len(set) == 0 {
		t.Fatal(p, set, where, err, wantSet, want)
	}
	return set
}

func TestRadon(t *testing.T) {
	for name, c := range map[string]struct {
		p    [4]api.Spot
		want string
	}{
		"first in the triangle":        {[4]api.Spot{at(1, 1), at(0, 0), at(4, 0), at(0, 4)}, "[0] {{1 1} {1 1}}"},
		"first on its rim":             {[4]api.Spot{at(2, 2), at(0, 0), at(4, 0), at(0, 4)}, "[0] {{2 1} {2 1}}"},
		"second in the triangle":       {[4]api.Spot{at(0, 0), at(1, 1), at(4, 0), at(0, 4)}, "[0 2 3] {{1 1} {1 1}}"},
		"third in the triangle":        {[4]api.Spot{at(0, 0), at(4, 0), at(1, 1), at(0, 4)}, "[0 1 3] {{1 1} {1 1}}"},
		"last in the triangle":         {[4]api.Spot{at(0, 0), at(4, 0), at(0, 4), at(1, 1)}, "[0 1 2] {{1 1} {1 1}}"},
		"0 1 cross 2 3":                {[4]api.Spot{at(0, 0), at(3, 2), at(0, 2), at(1, 0)}, "[0 1] {{3 4} {1 2}}"},
		"0 2 cross 1 3":                {[4]api.Spot{at(0, 0), at(0, 2), at(3, 2), at(1, 0)}, "[0 2] {{3 4} {1 2}}"},
		"0 3 cross 1 2":                {[4]api.Spot{at(0, 0), at(0, 2), at(1, 0), at(3, 2)}, "[0 3] {{3 4} {1 2}}"},
		"below 0":                      {[4]api.Spot{at(0, 0), at(-3, -2), at(0, -2), at(-1, 0)}, "[0 1] {{-3 4} {-1 2}}"},
		"all one":                      {[4]api.Spot{at(7, -7), at(7, -7), at(7, -7), at(7, -7)}, "[0] {{7 1} {-7 1}}"},
		"two, twice":                   {[4]api.Spot{at(1, 2), at(3, 4), at(3, 4), at(1, 2)}, "[0] {{1 1} {2 1}}"},
		"last two are one":             {[4]api.Spot{at(0, 0), at(1, 0), at(5, 5), at(5, 5)}, "[0 1 2] {{5 1} {5 1}}"},
		"on a line, one from 1 to 2":   {[4]api.Spot{at(0, 0), at(2, 0), at(1, 0), at(3, 0)}, "[0 1] {{1 1} {0 1}}"},
		"on a line, gone back":         {[4]api.Spot{at(0, 0), at(-2, 0), at(-1, 0), at(-3, 0)}, "[0 1] {{-2 1} {0 1}}"},
		"upright, the least Y":         {[4]api.Spot{at(5, 12), at(5, 4), at(5, 2), at(5, 9)}, "[0 1] {{5 1} {4 1}}"},
		"falling, the least X":         {[4]api.Spot{at(0, 9), at(6, 3), at(2, 7), at(8, 1)}, "[0 1] {{2 1} {7 1}}"},
		"one holds the other one":      {[4]api.Spot{at(0, 0), at(9, 0), at(3, 0), at(6, 0)}, "[0 1] {{3 1} {0 1}}"},
		"a corner of one, on the side": {[4]api.Spot{at(0, 0), at(4, 4), at(2, 2), at(9, 1)}, "[0 1] {{2 1} {2 1}}"},
		"as far as it goes":            {[4]api.Spot{at(-4096, -4096), at(4096, 4095), at(-4096, 4096), at(4096, -4096)}, "[0 1] {{4096 16383} {-4096 16383}}"},
	} {
		set, where, err := Radon(c.p)
		if got := fmt.Sprint(set, where); got != c.want || err != nil {
			t.Error(name, got, err)
		}
		holdsRadon(t, c.p)
	}
}

// TestAllRadons of a grid of nine: so all ways of lying on lines and on each other are there, and all sets.
func TestAllRadons(t *testing.T) {
	var grid []api.Spot
	for i := range 9 {
		grid = append(grid, at(i%3-1, i/3-1))
	}
	seen := map[string]int{}
	for i := range 9 * 9 * 9 * 9 {
		set := holdsRadon(t, [4]api.Spot{grid[i%9], grid[i/9%9], grid[i/81%9], grid[i/729]})
		seen[fmt.Sprint(set)]++
	}
	if len(seen) != 7 {
		t.Error(seen)
	}
}

func TestManyRadons(t *testing.T) {
	r := rand.New(rand.NewSource(121))
	for range 300 {
		for _, l := range [][]api.Spot{someSpots(r, 4, 5), someSpots(r, 4, 100), someSpots(r, 4, api.MaxPlace), rimSpots(r, 4)} {
			holdsRadon(t, [4]api.Spot(l))
		}
	}
}

func TestRadonTooFar(t *testing.T) {
	for _, s := range tooFar() {
		for i := range 4 {
			var p [4]api.Spot
			p[i] = s
			set, where, err := Radon(p)
			bare(t, err, api.ErrShape, p)
			if len(set) > 0 || where != (Point{}) {
				t.Error(p, set, where)
			}
		}
	}
	holdsRadon(t, [4]api.Spot{at(4096, -4096), at(-4096, 4096), at(4096, 4096), at(-4096, -4096)})
}

func TestRadonIsNewEachTime(t *testing.T) {
	p := [4]api.Spot{at(0, 0), at(4, 0), at(0, 4), at(1, 1)}
	for range 2 {
		set := holdsRadon(t, p)
		clear(set[:cap(set)])
	}
}
