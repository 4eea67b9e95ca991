package convex

import (
	"math"
	"math/big"
	"math/rand"
	"slices"
	"testing"

	"handlebody/api"
	"handlebody/cells"
)

// away: the square of how far two points are from each other.
func away(a, b exact) *big.Rat {
	x, y := sub(a.x, b.x), sub(a.y, b.y)
	return add(mul(x, x), mul(y, y))
}

// asFar from three points, if they are on no line: where two lines of points that are as far from two meet.
func asFar(a, b, c exact) (exact, bool) {
	area := left(a, b, c)
	if area.Sign() == 0 {
		return exact{}, false
	}
	origin := exact{new(big.Rat), new(big.Rat)}
	p, q, r := away(a, origin), away(b, origin), away(c, origin)
	two := new(big.Rat).Inv(mul(big.NewRat(2, 1), area))
	x := add(add(mul(p, sub(b.y, c.y)), mul(q, sub(c.y, a.y))), mul(r, sub(a.y, b.y)))
	y := add(add(mul(p, sub(c.x, b.x)), mul(q, sub(a.x, c.x))), mul(r, sub(b.x, a.x)))
	return exact{mul(x, two), mul(y, two)}, true
}

// plainRadius: the square of the least disc's that has all of at most three spots: its middle is one, half way between two, or as far from three.
func plainRadius(l []api.Spot) *big.Rat {
	var middles []exact
	half := big.NewRat(1, 2)
	for _, s := range l {
		for _, t := range l {
			a, b := ofSpot(s), ofSpot(t)
			middles = append(middles, exact{mul(half, add(a.x, b.x)), mul(half, add(a.y, b.y))})
		}
	}
	if len(l) == 3 {
		if m, ok := asFar(ofSpot(l[0]), ofSpot(l[1]), ofSpot(l[2])); ok {
			middles = append(middles, m)
		}
	}
	var least *big.Rat
	for _, m := range middles {
		farthest := new(big.Rat)
		for _, s := range l {
			if d := away(m, ofSpot(s)); d.Cmp(farthest) > 0 {
				farthest = d
			}
		}
		if least == nil || farthest.Cmp(least) < 0 {
			least = farthest
		}
	}
	return least
}

// plainComplex of the sets of at most three that are near.
func plainComplex(t *testing.T, l []api.Spot, near func(l []api.Spot) bool) cells.Complex {
	t.Helper()
	var sets [][]int
	for _, set := range subsets(len(l)) {
		if len(set) <= 3 && near(pick(l, set)) {
			sets = append(sets, set)
		}
	}
	out, err := cells.Make(sets)
	if err != nil {
		t.Fatal(l, err)
	}
	return out
}

func plainRips(t *testing.T, l []api.Spot, square int) cells.Complex {
	return plainComplex(t, l, func(l []api.Spot) bool {
		for _, a := range l {
			for _, b := range l {
				if away(ofSpot(a), ofSpot(b)).Cmp(big.NewRat(int64(square), 1)) > 0 {
					return false
				}
			}
		}
		return true
	})
}

func plainCech(t *testing.T, l []api.Spot, square int) cells.Complex {
	return plainComplex(t, l, func(l []api.Spot) bool { return plainRadius(l).Cmp(big.NewRat(int64(square), 1)) <= 0 })
}

func holdsDiscs(t *testing.T, l []api.Spot, square int) (rips, cech cells.Complex) {
	t.Helper()
	rips, err := Rips(l, square)
	if want := plainRips(t, l, square); err != nil || text(t, rips) != text(t, want) {
		t.Fatal(l, square, rips, err, want)
	}
	cech, err = Cech(l, square)
	if want := plainCech(t, l, square); err != nil || text(t, cech) != text(t, want) {
		t.Fatal(l, square, cech, err, want)
	}
	return rips, cech
}

func TestDiscs(t *testing.T) {
	sharp := []api.Spot{at(5, 0), at(-3, 4), at(-3, -4)}         // around 0, 5 away from it; sides 80, 80, 64
	right := []api.Spot{at(0, 0), at(6, 0), at(0, 8)}            // sides 36, 64, 100
	blunt := []api.Spot{at(0, 0), at(10, 0), at(5, 1)}           // sides 100, 26, 26
	line := []api.Spot{at(0, 0), at(4, 4), at(2, 2), at(-2, -2)} // 8 apart, at least
	one := []api.Spot{at(7, 7), at(7, 7), at(7, 7), at(7, 7)}
	for name, c := range map[string]struct {
		l          []api.Spot
		square     int
		rips, cech string
	}{
		"of none":                {nil, 0, "", ""},
		"of none, far":           {[]api.Spot{}, 1 << 40, "", ""},
		"of one":                 {[]api.Spot{at(3, 3)}, 0, "0", "0"},
		"at one place":           {one, 0, "0 1 2; 0 1 3; 0 2 3; 1 2 3", "0 1 2; 0 1 3; 0 2 3; 1 2 3"},
		"two of three, at 0":     {[]api.Spot{at(1, 1), at(0, 0), at(1, 1)}, 0, "0 2; 1", "0 2; 1"},
		"just apart":             {[]api.Spot{at(0, 0), at(3, 4)}, 6, "0; 1", "0; 1"},
		"in a disc":              {[]api.Spot{at(0, 0), at(3, 4)}, 7, "0; 1", "0 1"},
		"a bit too far":          {[]api.Spot{at(0, 0), at(3, 4)}, 24, "0; 1", "0 1"},
		"near":                   {[]api.Spot{at(0, 0), at(3, 4)}, 25, "0 1", "0 1"},
		"sharp, on the rim":      {sharp, 25, "0; 1; 2", "0 1 2"},
		"sharp, not yet":         {sharp, 24, "0; 1; 2", "0 1; 0 2; 1 2"},
		"sharp, one side":        {sharp, 64, "0; 1 2", "0 1 2"},
		"sharp, all sides":       {sharp, 80, "0 1 2", "0 1 2"},
		"sharp, two not yet":     {sharp, 79, "0; 1 2", "0 1 2"},
		"right, on the rim":      {right, 25, "0; 1; 2", "0 1 2"},
		"right, not yet":         {right, 24, "0; 1; 2", "0 1; 0 2"},
		"blunt, on the rim":      {blunt, 25, "0; 1; 2", "0 1 2"},
		"blunt, not yet":         {blunt, 24, "0; 1; 2", "0 2; 1 2"},
		"blunt, two sides":       {blunt, 26, "0 2; 1 2", "0 1 2"},
		"on a line":              {line, 8, "0 2; 0 3; 1 2", "0 1 2; 0 2 3"},
		"on a line, a bit less":  {line, 7, "0; 1; 2; 3", "0 2; 0 3; 1 2"},
		"on a line, all":         {line, 72, "0 1 2; 0 1 3; 0 2 3; 1 2 3", "0 1 2; 0 1 3; 0 2 3; 1 2 3"},
		"from corner to corner":  {[]api.Spot{at(4096, 4096), at(-4096, -4096)}, 1 << 27, "0 1", "0 1"},
		"and a bit less":         {[]api.Spot{at(4096, 4096), at(-4096, -4096)}, 1<<27 - 1, "0; 1", "0 1"},
		"half, from there":       {[]api.Spot{at(4096, 4096), at(-4096, -4096)}, 1 << 25, "0; 1", "0 1"},
		"half and a bit less":    {[]api.Spot{at(4096, 4096), at(-4096, -4096)}, 1<<25 - 1, "0; 1", "0; 1"},
		"great, sharp":           {[]api.Spot{at(-4096, -4096), at(4096, -4096), at(0, 4096)}, 5120 * 5120, "0; 1; 2", "0 1 2"},
		"great, sharp, not yet":  {[]api.Spot{at(-4096, -4096), at(4096, -4096), at(0, 4096)}, 5120*5120 - 1, "0; 1; 2", "0 1; 0 2; 1 2"},
		"the greatest square":    {[]api.Spot{at(-4096, -4096), at(4096, -4096), at(0, 4096)}, 1 << 40, "0 1 2", "0 1 2"},
		"no more than three":     {[]api.Spot{at(0, 0), at(1, 0), at(0, 1), at(1, 1)}, 2, "0 1 2; 0 1 3; 0 2 3; 1 2 3", "0 1 2; 0 1 3; 0 2 3; 1 2 3"},
		"a square without cross": {[]api.Spot{at(0, 0), at(1, 0), at(0, 1), at(1, 1)}, 1, "0 1; 0 2; 1 3; 2 3", "0 1 2; 0 1 3; 0 2 3; 1 2 3"},
	} {
		rips, cech := holdsDiscs(t, c.l, c.square)
		if text(t, rips) != c.rips || text(t, cech) != c.cech {
			t.Error(name, text(t, rips), text(t, cech))
		}
	}
}

// floor of a fraction that is not below 0.
func floor(r *big.Rat) int { return int(new(big.Int).Quo(r.Num(), r.Denom()).Int64()) }

// TestSharpRadii: squares just at the least disc's, and one less.
func TestSharpRadii(t *testing.T) {
	r := rand.New(rand.NewSource(130))
	for range 300 {
		for _, l := range [][]api.Spot{someSpots(r, 3, 4), someSpots(r, 3, 90), someSpots(r, 3, api.MaxPlace), rimSpots(r, 3)} {
			square := floor(plainRadius(l))
			for _, s := range []int{square - 1, square, square + 1} {
				if s >= 0 {
					holdsDiscs(t, l, s)
				}
			}
		}
	}
}

func TestManyDiscs(t *testing.T) {
	r := rand.New(rand.NewSource(131))
	for range 12 {
		for _, reach := range []int{2, 9, api.MaxPlace} {
			l := someSpots(r, r.Intn(api.MaxPoints+1), reach)
			for range 3 {
				holdsDiscs(t, l, r.Intn(1+2*reach*reach))
			}
		}
	}
	v, err := Rips(make([]api.Spot, 12), 0)
	if err != nil || len(v.Facets) != 220 {
		t.Error(v, err)
	}
	v, err = Cech(make([]api.Spot, 12), 0)
	if err != nil || len(v.Facets) != 220 {
		t.Error(v, err)
	}
}

// within: each facet of one complex is a face of another one.
func within(t *testing.T, a, b cells.Complex) bool {
	t.Helper()
	for _, f := range a.Facets {
		if has, err := cells.Has(b, f); !has || err != nil {
			return false
		}
	}
	return true
}

// lawsOfDiscs: Cech of r is in Rips of 4r; Rips of 3r is in Cech of r.
func lawsOfDiscs(t *testing.T, l []api.Spot, r int) (strictly bool) {
	t.Helper()
	cech, err := Cech(l, r)
	outer, outerErr := Rips(l, 4*r)
	inner, innerErr := Rips(l, 3*r)
	if err != nil || outerErr != nil || innerErr != nil {
		t.Fatal(l, r, err, outerErr, innerErr)
	}
	if !within(t, cech, outer) || !within(t, inner, cech) {
		t.Fatal(l, r, cech, outer, inner)
	}
	return !within(t, outer, cech) && !within(t, cech, inner)
}

func TestLawsOfDiscs(t *testing.T) {
	r := rand.New(rand.NewSource(132))
	strictly := 0
	for range 60 {
		for _, reach := range []int{1, 5, 40, api.MaxPlace} {
			l := someSpots(r, r.Intn(api.MaxPoints+1), reach)
			if lawsOfDiscs(t, l, r.Intn(1+reach*reach)) {
				strictly++
			}
		}
	}
	if strictly < 20 {
		t.Error("too few of which all three are unlike", strictly)
	}
	lawsOfDiscs(t, rimSpots(r, 12), 1<<38) // as great as 4r may be
	for _, l := range nearlyEqual() {
		d := []int{apart(l[0], l[1]), apart(l[0], l[2]), apart(l[1], l[2])}
		lawsOfDiscs(t, l, (slices.Max(d)+2)/3) // the least r of which Rips has the triangle
	}
}

// nearlyEqual sides: there Rips of 3r is nearest to having what Cech of r has not.
func nearlyEqual() [][]api.Spot {
	var out [][]api.Spot
	for _, c := range [][2]int{{2, 2}, {8, 7}, {30, 26}, {112, 97}, {418, 362}, {1560, 1351}, {4096, 3547}} {
		out = append(out, []api.Spot{at(0, 0), at(c[0], 0), at(c[0]/2, c[1])})
	}
	return out
}

func refusedDiscs(t *testing.T, l []api.Spot, square int, want error) {
	t.Helper()
	for _, make := range []func([]api.Spot, int) (cells.Complex, error){Rips, Cech} {
		got, err := make(l, square)
		bare(t, err, want, l, square)
		if len(got.Facets) > 0 {
			t.Error(l, square, got)
		}
	}
}

func TestDiscsWrong(t *testing.T) {
	for _, square := range []int{-1, -2, 1<<40 + 1, 1 << 41, math.MaxInt, math.MinInt, 1 << 62} {
		refusedDiscs(t, nil, square, api.ErrShape)
		refusedDiscs(t, make([]api.Spot, 12), square, api.ErrShape)
		refusedDiscs(t, make([]api.Spot, 13), square, api.ErrBound)
	}
	for _, s := range tooFar() {
		refusedDiscs(t, []api.Spot{s}, 1, api.ErrShape)
		refusedDiscs(t, []api.Spot{{}, {}, s}, 1<<40, api.ErrShape)
		refusedDiscs(t, append(make([]api.Spot, 12), s), 1, api.ErrBound)
	}
	refusedDiscs(t, make([]api.Spot, 13), 0, api.ErrBound)
	refusedDiscs(t, make([]api.Spot, 1000), 0, api.ErrBound)
}

// TestDiscMemory: what is handed over is only read, also behind its length, and answers are new each time.
func TestDiscMemory(t *testing.T) {
	memory := []api.Spot{at(0, 0), at(6, 0), at(3, 4), at(math.MinInt, 0)}
	before := slices.Clone(memory)
	for range 2 {
		rips, cech := holdsDiscs(t, memory[:3], 36)
		for _, c := range []cells.Complex{rips, cech} {
			if text(t, c) != "0 1 2" {
				t.Error(c)
			}
			clear(c.Facets[0])
			clear(c.Facets)
		}
		if !slices.Equal(memory, before) {
			t.Error(memory)
		}
	}
}
