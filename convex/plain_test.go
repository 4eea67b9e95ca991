package convex

import (
	"fmt"
	"math"
	"math/big"
	"math/rand"
	"slices"
	"testing"

	"handlebody/api"
)

// What the program answers is held against tellings of another kind, with the library's fractions.

func at(x, y int) api.Spot { return api.Spot{X: x, Y: y} }

func frac(n, d int) api.Frac { return api.Frac{Num: n, Den: d} }

func point(x, xd, y, yd int) Point { return Point{X: frac(x, xd), Y: frac(y, yd)} }

// bare: just this error, nothing around it.
func bare(t *testing.T, err, want error, about ...any) {
	t.Helper()
	if err != want {
		t.Error(append(about, err, want)...)
	}
}

// exact point of the plane.
type exact struct{ x, y *big.Rat }

func ofSpot(s api.Spot) exact { return exact{big.NewRat(int64(s.X), 1), big.NewRat(int64(s.Y), 1)} }

func ofPoint(p Point) exact {
	return exact{big.NewRat(int64(p.X.Num), int64(p.X.Den)), big.NewRat(int64(p.Y.Num), int64(p.Y.Den))}
}

func toldFrac(r *big.Rat) api.Frac { return frac(int(r.Num().Int64()), int(r.Denom().Int64())) }

func (e exact) told() Point { return Point{X: toldFrac(e.x), Y: toldFrac(e.y)} }

func add(a, b *big.Rat) *big.Rat { return new(big.Rat).Add(a, b) }
func sub(a, b *big.Rat) *big.Rat { return new(big.Rat).Sub(a, b) }
func mul(a, b *big.Rat) *big.Rat { return new(big.Rat).Mul(a, b) }

// left: above 0 if c is on the left of the way from a to b.
func left(a, b, c exact) *big.Rat {
	return sub(mul(sub(b.x, a.x), sub(c.y, a.y)), mul(sub(b.y, a.y), sub(c.x, a.x)))
}

// chain: one half of the hull's rim, of sorted spots.
func chain(l []api.Spot) []api.Spot {
	var out []api.Spot
	for _, s := range l {
		for len(out) > 1 && left(ofSpot(out[len(out)-2]), ofSpot(out[len(out)-1]), ofSpot(s)).Sign() <= 0 {
			out = out[:len(out)-1]
		}
		out = append(out, s)
	}
	return out
}

// plainHull: its corners, turning left.
func plainHull(l []api.Spot) []api.Spot {
	l = slices.Clone(l)
	slices.SortFunc(l, func(a, b api.Spot) int { return slices.Compare([]int{a.X, a.Y}, []int{b.X, b.Y}) })
	l = slices.Compact(l)
	if len(l) < 2 {
		return l
	}
	low := chain(l)
	slices.Reverse(l)
	high := chain(l)
	return append(low[:len(low)-1], high[:len(high)-1]...)
}

func plainIn(l []api.Spot, p exact) bool {
	hull := plainHull(l)
	if len(hull) == 0 {
		return false
	}
	for i := range hull {
		a, b := ofSpot(hull[i]), ofSpot(hull[(i+1)%len(hull)])
		if left(a, b, p).Sign() < 0 {
			return false
		}
	}
	return inFrame(hull, p) // which is all that is left to ask of a point or of one side, gone there and back
}

// inFrame: between the least and the greatest coordinates.
func inFrame(l []api.Spot, p exact) bool {
	frame := [4]int{math.MaxInt, math.MinInt, math.MaxInt, math.MinInt}
	for _, s := range l {
		frame = [4]int{min(frame[0], s.X), max(frame[1], s.X), min(frame[2], s.Y), max(frame[3], s.Y)}
	}
	low, high := ofSpot(at(frame[0], frame[2])), ofSpot(at(frame[1], frame[3]))
	return low.x.Cmp(p.x) <= 0 && p.x.Cmp(high.x) <= 0 && low.y.Cmp(p.y) <= 0 && p.y.Cmp(high.y) <= 0
}

// pick spots by their numbers.
func pick(l []api.Spot, set []int) []api.Spot {
	var out []api.Spot
	for _, i := range set {
		out = append(out, l[i])
	}
	return out
}

// subsets of the numbers below n, by bits, none left out.
func subsets(n int) [][]int {
	var out [][]int
	for bits := 1; bits < 1<<n; bits++ {
		var set []int
		for i := range n {
			if bits>>i&1 == 1 {
				set = append(set, i)
			}
		}
		out = append(out, set)
	}
	return out
}

// someSpots, all with coordinates up to reach in size.
func someSpots(r *rand.Rand, n, reach int) []api.Spot {
	out := make([]api.Spot, n)
	for i := range out {
		out[i] = at(r.Intn(2*reach+1)-reach, r.Intn(2*reach+1)-reach)
	}
	return out
}

// rimSpots: coordinates as great as they may be, or nearly so.
func rimSpots(r *rand.Rand, n int) []api.Spot {
	out := make([]api.Spot, n)
	for i := range out {
		x, y := api.MaxPlace-r.Intn(3), api.MaxPlace-r.Intn(3)
		out[i] = at(x*(1-2*r.Intn(2)), y*(1-2*r.Intn(2)))
	}
	return out
}

// tooFar: spots with a coordinate that is too great.
func tooFar() []api.Spot {
	var out []api.Spot
	for _, n := range []int{4097, -4097, 1 << 20, 1 << 40, math.MaxInt, math.MinInt, math.MinInt + 1} {
		out = append(out, at(n, 0), at(0, n), at(n, n), at(-4096, n), at(n, 4096))
	}
	return out
}

func TestPlainIn(t *testing.T) {
	l := []api.Spot{at(0, 0), at(4, 0), at(0, 4), at(1, 1), at(0, 0)}
	for p, want := range map[Point]bool{point(1, 1, 1, 2): true, point(2, 1, 2, 1): true, point(2, 1, 9, 4): false, point(0, 1, 4, 1): true, point(-1, 9, 1, 1): false} {
		if plainIn(l, ofPoint(p)) != want {
			t.Error(p)
		}
	}
	if got := fmt.Sprint(plainHull(l)); got != "[{0 0} {4 0} {0 4}]" {
		t.Error(got)
	}
}
