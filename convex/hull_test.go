package convex

import (
	"math"
	"math/big"
	"math/rand"
	"slices"
	"testing"

	"handlebody/api"
)

func holdsIn(t *testing.T, l []api.Spot, p Point) bool {
	t.Helper()
	got, err := In(l, p)
	if want := plainIn(l, ofPoint(p)); got != want || err != nil {
		t.Fatal(l, p, got, err, want)
	}
	return got
}

func TestIn(t *testing.T) {
	triangle := []api.Spot{at(0, 0), at(4, 0), at(0, 4)}
	for name, c := range map[string]struct {
		l    []api.Spot
		p    Point
		want bool
	}{
		"of none":                     {nil, point(0, 1, 0, 1), false},
		"of an empty list":            {[]api.Spot{}, point(0, 1, 0, 1), false},
		"of itself":                   {[]api.Spot{at(3, -2)}, point(3, 1, -2, 1), true},
		"of another one":              {[]api.Spot{at(3, -2)}, point(3, 1, -1, 1), false},
		"of one, thrice":              {[]api.Spot{at(3, 2), at(3, 2), at(3, 2)}, point(3, 1, 2, 1), true},
		"not of one, thrice":          {[]api.Spot{at(3, 2), at(3, 2), at(3, 2)}, point(6, 1, 4, 1), false},
		"half way":                    {[]api.Spot{at(0, 0), at(1, 1)}, point(1, 2, 1, 2), true},
		"an end":                      {[]api.Spot{at(0, 0), at(1, 1)}, point(1, 1, 1, 1), true},
		"on the line, behind the end": {[]api.Spot{at(0, 0), at(1, 1)}, point(3, 2, 3, 2), false},
		"on the line, ahead of it":    {[]api.Spot{at(1, 1), at(2, 2)}, point(1, 2, 1, 2), false},
		"beside the line":             {[]api.Spot{at(0, 0), at(1, 1)}, point(1, 2, 1, 3), false},
		"three on a line":             {[]api.Spot{at(0, 0), at(6, 3), at(2, 1)}, point(5, 1, 5, 2), true},
		"three on a line, and off":    {[]api.Spot{at(0, 0), at(6, 3), at(2, 1)}, point(7, 1, 7, 2), false},
		"inside":                      {triangle, point(1, 1, 1, 1), true},
		"a corner":                    {triangle, point(4, 1, 0, 1), true},
		"a side":                      {triangle, point(7, 3, 5, 3), true},
		"behind a side":               {triangle, point(7, 3, 1667, 1000), false},
		"on a side's line":            {triangle, point(5, 1, -1, 1), false},
		"the other way round":         {[]api.Spot{at(0, 4), at(4, 0), at(0, 0)}, point(1, 1, 1, 1), true},
		"a square's middle":           {[]api.Spot{at(0, 0), at(2, 2), at(0, 2), at(2, 0)}, point(1, 1, 1, 1), true},
		"more than a square":          {[]api.Spot{at(0, 0), at(2, 2), at(0, 2), at(2, 0), at(1, 1), at(1, 0)}, point(1, 3, 2, 1), true},
		"far off":                     {triangle, point(1<<40, 1, -1<<40, 1), false},
		"a hair inside":               {[]api.Spot{at(-4096, -4096), at(4096, -4096), at(0, 4096)}, point(1, 1<<40, 1<<40-1, 1<<28), true},
		"a hair outside":              {[]api.Spot{at(-4096, 4095), at(4096, 4095), at(0, -4096)}, point(1, 3, 4095<<28+1, 1<<28), false},
	} {
		if got := holdsIn(t, c.l, c.p); got != c.want {
			t.Error(name, got)
		}
	}
}

// TestInOfWeights: what is made of spots by weights is in the hull; a bit farther than a corner of a side it is not.
func TestInOfWeights(t *testing.T) {
	r := rand.New(rand.NewSource(122))
	in, out := 0, 0
	for range 400 {
		l := someSpots(r, 1+r.Intn(api.MaxPoints), []int{1, 3, 50, api.MaxPlace}[r.Intn(4)])
		x, y, all := 0, 0, 0
		for _, s := range l {
			w := r.Intn(4)
			x, y, all = x+w*s.X, y+w*s.Y, all+w
		}
		if all == 0 {
			continue
		}
		p := Point{X: toldFrac(big.NewRat(int64(x), int64(all))), Y: toldFrac(big.NewRat(int64(y), int64(all)))}
		if !holdsIn(t, l, p) {
			t.Error(l, p)
		}
		for _, step := range []*big.Rat{big.NewRat(1, 7), big.NewRat(-1, 1<<30)} {
			q := ofPoint(p)
			moved := exact{add(q.x, step), q.y}
			if moved.x.Denom().BitLen() > 40 || moved.x.Num().BitLen() > 40 {
				continue
			}
			if holdsIn(t, l, moved.told()) {
				in++
			} else {
				out++
			}
		}
	}
	if in < 50 || out < 50 {
		t.Error("too few of one kind", in, out)
	}
}

// TestInNearSides: points as near to a side as fractions allow.
func TestInNearSides(t *testing.T) {
	r := rand.New(rand.NewSource(123))
	in := 0
	for range 400 {
		l := rimSpots(r, 2+r.Intn(4))
		a, b := ofSpot(l[0]), ofSpot(l[1])
		den := int64(1<<27 - 1 - r.Intn(1000))
		times := big.NewRat(r.Int63n(den), den)
		x := add(a.x, mul(times, sub(b.x, a.x)))
		y := add(a.y, mul(times, sub(b.y, a.y)))
		scaled := new(big.Int).Quo(new(big.Int).Lsh(y.Num(), 27), y.Denom()) // cut off behind 27 bits
		p := exact{x, new(big.Rat).SetFrac(scaled, big.NewInt(1<<27))}
		if x.Num().BitLen() > 40 || scaled.BitLen() > 40 {
			t.Fatal(x, scaled)
		}
		if holdsIn(t, l, p.told()) {
			in++
		}
	}
	if in < 50 || in > 350 {
		t.Error("too few of one kind", in)
	}
}

func TestInOfASmallGrid(t *testing.T) {
	r := rand.New(rand.NewSource(124))
	for range 150 {
		l := someSpots(r, r.Intn(6), 1)
		for i := range 49 {
			x, y := big.NewRat(int64(i%7-3), 2), big.NewRat(int64(i/7-3), 2)
			holdsIn(t, l, exact{x, y}.told())
		}
	}
}

// wrongFracs: not in their lowest terms, or with a number that is too great.
func wrongFracs() []api.Frac {
	return []api.Frac{
		{}, {Num: 1}, {Num: -1}, {Num: 1, Den: -1}, {Num: 0, Den: 2}, {Num: 0, Den: -1}, {Num: 2, Den: 4}, {Num: -2, Den: 4}, {Num: 2, Den: 2}, {Num: -3, Den: -2},
		{Num: 1<<40 + 1, Den: 1}, {Num: -1<<40 - 1, Den: 1}, {Num: 1, Den: 1<<40 + 1}, {Num: 1 << 40, Den: 2}, {Num: 1 << 40, Den: 1 << 40},
		{Num: math.MinInt, Den: 1}, {Num: math.MaxInt, Den: 1}, {Num: 1, Den: math.MaxInt}, {Num: 1, Den: math.MinInt}, {Num: math.MinInt, Den: math.MinInt}, {Num: 0, Den: math.MinInt}, {Num: math.MinInt, Den: 0},
	}
}

func refusedIn(t *testing.T, l []api.Spot, p Point, want error) {
	t.Helper()
	got, err := In(l, p)
	bare(t, err, want, l, p)
	if got {
		t.Error(l, p)
	}
}

func TestInWrong(t *testing.T) {
	well := point(0, 1, 0, 1)
	for _, n := range []int{0, 1, 2, 12} {
		for _, f := range wrongFracs() {
			refusedIn(t, make([]api.Spot, n), Point{X: f, Y: well.Y}, api.ErrShape)
			refusedIn(t, make([]api.Spot, n), Point{X: well.X, Y: f}, api.ErrShape)
		}
	}
	for _, s := range tooFar() {
		refusedIn(t, []api.Spot{s}, well, api.ErrShape)
		refusedIn(t, []api.Spot{{}, {}, s}, well, api.ErrShape)
		refusedIn(t, append(make([]api.Spot, 12), s), Point{}, api.ErrBound)
	}
	for _, n := range []int{13, 14, 1000} {
		refusedIn(t, make([]api.Spot, n), well, api.ErrBound)
		refusedIn(t, make([]api.Spot, n), Point{}, api.ErrBound)
	}
	if !holdsIn(t, make([]api.Spot, 12), well) {
		t.Error("twelve at one place")
	}
	for _, f := range []api.Frac{frac(1<<40, 1), frac(-1<<40, 1), frac(1<<40-1, 1<<40), frac(-1<<40, 1<<40-1), frac(1, 1<<40)} {
		holdsIn(t, []api.Spot{at(0, 0), at(1, 1)}, Point{X: f, Y: f})
		holdsIn(t, []api.Spot{at(0, 0), at(-1, 1), at(-2, 2)}, Point{X: f, Y: frac(-f.Num, f.Den)})
	}
}

// plainShows: spots of each part from 0 to the greatest one, asked for one by one.
func plainShows(l []api.Spot, parts []int, p Point) bool {
	for n := 0; n <= slices.Max(parts); n++ {
		var part []api.Spot
		for i, of := range parts {
			if of == n {
				part = append(part, l[i])
			}
		}
		if !plainIn(part, ofPoint(p)) {
			return false
		}
	}
	return true
}

func holdsParts(t *testing.T, l []api.Spot) []int {
	t.Helper()
	parts, p, err := Parts(l)
	if err != nil || len(parts) != 7 || slices.Min(parts) < 0 || slices.Max(parts) != 2 {
		t.Fatal(l, parts, p, err)
	}
	if !lowest(p.X) || !lowest(p.Y) || !plainShows(l, parts, p) || !Shows(l, parts, p) {
		t.Fatal(l, parts, p)
	}
	return parts
}

func TestParts(t *testing.T) {
	for name, l := range map[string][]api.Spot{
		"all one":                {{}, {}, {}, {}, {}, {}, {}},
		"two places":             {at(0, 0), at(1, 0), at(0, 0), at(1, 0), at(1, 0), at(0, 0), at(1, 0)},
		"three places":           {at(0, 0), at(1, 0), at(0, 1), at(1, 0), at(0, 1), at(0, 0), at(0, 1)},
		"on a line":              {at(0, 0), at(6, 3), at(2, 1), at(10, 5), at(-4, -2), at(8, 4), at(4, 2)},
		"upright":                {at(7, 1), at(7, 2), at(7, 3), at(7, 4), at(7, 5), at(7, 6), at(7, 7)},
		"seven corners":          {at(0, 3), at(2, 2), at(3, 0), at(2, -3), at(-1, -4), at(-3, -2), at(-2, 2)},
		"a line and one":         {at(0, 0), at(1, 0), at(2, 0), at(3, 0), at(4, 0), at(5, 0), at(2, 5)},
		"two in two triangles":   {at(0, 9), at(-8, -5), at(8, -5), at(0, -9), at(-8, 5), at(8, 5), at(1, 1)},
		"as far as they go":      {at(4096, 4096), at(-4096, 4096), at(4096, -4096), at(-4096, -4096), at(4095, -4094), at(-4095, 4093), at(-4091, -4096)},
		"as far, at two corners": {at(4096, 4096), at(-4096, -4096), at(4096, 4096), at(-4096, -4096), at(4096, 4096), at(-4096, -4096), at(4096, 4095)},
	} {
		holdsParts(t, l)
		if t.Failed() {
			t.Fatal(name)
		}
	}
}

func TestManyParts(t *testing.T) {
	r := rand.New(rand.NewSource(125))
	sizes := map[int]int{}
	for range 100 {
		for _, l := range [][]api.Spot{someSpots(r, 7, 1), someSpots(r, 7, 3), someSpots(r, 7, 60), someSpots(r, 7, api.MaxPlace), rimSpots(r, 7), onACircle(r)} {
			parts := holdsParts(t, l)
			counts := [3]int{}
			for _, n := range parts {
				counts[n]++
			}
			sizes[min(counts[0], counts[1], counts[2])]++
		}
	}
	if sizes[1] == 0 || sizes[2] == 0 {
		t.Error("one kind of parts alone", sizes)
	}
}

// onACircle: seven corners of a hull, in any order.
func onACircle(r *rand.Rand) []api.Spot {
	out := []api.Spot{at(65, 0), at(63, 16), at(60, 25), at(56, 33), at(-52, 39), at(-39, 52), at(-33, -56), at(-25, -60), at(16, -63), at(0, -65), at(-65, 0), at(52, -39)}
	r.Shuffle(len(out), func(i, k int) { out[i], out[k] = out[k], out[i] })
	return out[:7]
}

func TestPartsWrong(t *testing.T) {
	refused := func(l []api.Spot) {
		t.Helper()
		parts, p, err := Parts(l)
		bare(t, err, api.ErrShape, l)
		if len(parts) > 0 || p != (Point{}) {
			t.Error(l, parts, p)
		}
	}
	for _, n := range []int{0, 1, 6, 8, 12, 13, 100} {
		refused(make([]api.Spot, n))
	}
	for _, s := range tooFar() {
		for i := range 7 {
			l := make([]api.Spot, 7)
			l[i] = s
			refused(l)
		}
	}
}

func TestShows(t *testing.T) {
	cross := []api.Spot{at(0, 0), at(2, 2), at(0, 2), at(2, 0), at(1, 1)}
	mid := point(1, 1, 1, 1)
	for name, c := range map[string]struct {
		l     []api.Spot
		parts []int
		p     Point
		want  bool
	}{
		"three parts":                 {cross, []int{0, 0, 1, 1, 2}, mid, true},
		"by other numbers":            {cross, []int{2, 2, 0, 0, 1}, mid, true},
		"one part":                    {cross, []int{0, 0, 0, 0, 0}, mid, true},
		"another point":               {cross, []int{0, 0, 1, 1, 1}, point(1, 1, 1, 2), false},
		"a part that lacks it":        {cross, []int{0, 0, 1, 2, 1}, mid, false},
		"the first lacks it":          {cross, []int{0, 1, 0, 1, 2}, mid, false},
		"the last alone has none":     {cross, []int{0, 0, 1, 1, 3}, mid, false},
		"none of 0":                   {cross, []int{1, 1, 1, 1, 1}, mid, false},
		"as many as points":           {cross, []int{0, 0, 1, 1, 5}, mid, false},
		"below 0":                     {cross, []int{0, 0, 1, 1, -1}, mid, false},
		"the greatest number":         {cross, []int{0, 0, 1, 1, math.MaxInt}, mid, false},
		"the least number":            {cross, []int{0, 0, 1, 1, math.MinInt}, mid, false},
		"too few numbers":             {cross, []int{0, 0, 1, 1}, mid, false},
		"too many numbers":            {cross, []int{0, 0, 1, 1, 2, 2}, mid, false},
		"no numbers":                  {cross, nil, mid, false},
		"of none":                     {nil, nil, mid, false},
		"of none, with a number":      {nil, []int{0}, mid, false},
		"not in lowest terms":         {cross, []int{0, 0, 1, 1, 2}, point(2, 2, 1, 1), false},
		"no fraction":                 {cross, []int{0, 0, 1, 1, 2}, Point{}, false},
		"too far":                     {[]api.Spot{at(4097, 0), at(-4097, 0), at(0, 0)}, []int{0, 0, 0}, point(0, 1, 0, 1), false},
		"not too far":                 {[]api.Spot{at(4096, 0), at(-4096, 0), at(0, 0)}, []int{0, 0, 1}, point(0, 1, 0, 1), true},
		"twelve":                      {make([]api.Spot, 12), []int{0, 1, 2, 3, 4, 5, 6, 7, 8, 9, 10, 11}, point(0, 1, 0, 1), true},
		"twelve, one too great":       {make([]api.Spot, 12), []int{0, 1, 2, 3, 4, 5, 6, 7, 8, 9, 10, 12}, point(0, 1, 0, 1), false},
		"thirteen":                    {make([]api.Spot, 13), make([]int, 13), point(0, 1, 0, 1), false},
		"thirteen, with a part of 12": {make([]api.Spot, 13), []int{0, 1, 1, 1, 1, 1, 1, 1, 1, 1, 1, 1, 1}, point(0, 1, 0, 1), false},
	} {
		if got := Shows(c.l, c.parts, c.p); got != c.want {
			t.Error(name, got)
		}
	}
}

func TestManyShows(t *testing.T) {
	r := rand.New(rand.NewSource(126))
	yes := 0
	for range 3000 {
		l := someSpots(r, 1+r.Intn(api.MaxPoints), 2)
		parts := make([]int, len(l))
		for i := range parts {
			parts[i] = r.Intn(1 + len(l)/4)
		}
		p := point(r.Intn(3)-1, 1, r.Intn(3)-1, 1+r.Intn(2))
		if !lowest(p.Y) {
			continue
		}
		got := Shows(l, parts, p)
		if got != plainShows(l, parts, p) {
			t.Fatal(l, parts, p, got)
		}
		if got {
			yes++
		}
	}
	if yes < 100 {
		t.Error("too few that show", yes)
	}
}

// TestPointMemory: what is handed over is only read, also behind its length, and answers are new each time.
func TestPointMemory(t *testing.T) {
	r := rand.New(rand.NewSource(127))
	memory := append(someSpots(r, 7, 30), at(math.MinInt, 7), at(9, 9))
	numbers := make([]int, 9)
	before, l := slices.Clone(memory), memory[:7]
	first, p, _ := Parts(l)
	kept := slices.Clone(first)
	clear(first[:cap(first)])
	for range 2 {
		parts, q, err := Parts(l)
		if err != nil || !slices.Equal(parts, kept) || q != p {
			t.Error(parts, q, err)
		}
		copy(numbers, append(parts, -1, -1))
		if in, err := In(l, p); !in || err != nil || !Shows(l, numbers[:7], p) {
			t.Error(in, err)
		}
		clear(parts[:cap(parts)])
		if !slices.Equal(memory, before) || !slices.Equal(numbers, append(slices.Clone(kept), -1, -1)) {
			t.Error(memory, numbers)
		}
	}
}
