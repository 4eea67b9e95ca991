package index

import (
	"fmt"
	"math"
	"math/cmplx"
	"math/rand"
	"slices"
	"testing"
	"time"

	"handlebody/api"
)

const top = 1 << 20 // the greatest part

func windingOf(t *testing.T, path []complex128) int {
	t.Helper()
	n, err := Winding(path)
	if err != nil {
		t.Fatal(path, err)
	}
	return n
}

func TestWinding(t *testing.T) {
	minus := math.Copysign(0, -1)
	for name, c := range map[string]struct {
		path []complex128
		want int
	}{
		"the document's":               {[]complex128{1, 1i, -1, -1i}, 1},
		"the other way":                {[]complex128{1, -1i, -1, 1i}, -1},
		"a point":                      {[]complex128{1}, 0},
		"a point below":                {[]complex128{-3i}, 0},
		"one point many times":         {[]complex128{2i, 2i, 2i, 2i}, 0},
		"there and back":               {[]complex128{1 - 1i, 1 + 1i}, 0},
		"there and back on the left":   {[]complex128{-1 - 1i, -1 + 1i}, 0},
		"along the line to the right":  {[]complex128{1, 5}, 0},
		"along the line to the left":   {[]complex128{-1, -5, -2}, 0},
		"beside 0":                     {[]complex128{5, 6 + 1i, 6 - 1i}, 0},
		"left of 0":                    {[]complex128{-5, -6 + 1i, -6 - 1i}, 0},
		"a triangle":                   {[]complex128{1, -1 + 1i, -1 - 1i}, 1},
		"a triangle, backward":         {[]complex128{-5 - 1i, -5 + 1i, 4}, -1},
		"close by, 0 outside":          {[]complex128{1, 1i, 1 + 1i}, 0},
		"twice":                        {[]complex128{2, 2i, -2, -2i, 3, 3i, -3, -3i}, 2},
		"an eight":                     {[]complex128{1, 1i, -1, -1i, 1, -1i, -1, 1i}, 0},
		"an eight, one half around 0":  {[]complex128{-1 - 1i, 2 - 1i, 2 + 1i, -1 + 1i, -3 - 1i, -3 + 1i}, 1},
		"on the line for a while":      {[]complex128{1 - 1i, 1, 2, 3, 1 + 1i, -1 + 1i, -1 - 1i}, 1},
		"on the line and down again":   {[]complex128{1 - 1i, 1, 2, 3, 3 - 1i}, 0},
		"on the line from above":       {[]complex128{1 + 1i, 1, 2, 3, 3 + 1i}, 0},
		"on the left line and through": {[]complex128{-1 + 1i, -1, -2, -1 - 1i, 1}, 1},
		"five times, backward":         {slices.Repeat([]complex128{1, -1 - 1i, -1 + 1i}, 5), -5},
		"from bound to bound":          {[]complex128{top + top*1i, -top + top*1i, -top - top*1i, top - top*1i}, 1},
		"nearly through 0, left":       {[]complex128{top + (top-1)*1i, -(top - 1) - (top-2)*1i, -1 + 1i}, 0},
		"nearly through 0, right":      {[]complex128{top + (top-1)*1i, -(top - 1) - (top-2)*1i, 1 - 1i}, 1},
		"zeros below 0":                {[]complex128{complex(1, minus), complex(minus, 1), complex(-1, minus), complex(minus, -1)}, 1},
	} {
		t.Run(name, func(t *testing.T) {
			if got := windingOf(t, c.path); got != c.want || got != byAngles(c.path) {
				t.Error(got, "want", c.want, "by angles", byAngles(c.path))
			}
		})
	}
}

// byAngles: how far the point turns from line to line, all together.
func byAngles(path []complex128) int {
	sum := 0.0
	for i, p := range path {
		sum += cmplx.Phase(path[(i+1)%len(path)] / p)
	}
	return int(math.Round(sum / (2 * math.Pi)))
}

// through: the first point from which the line has 0: between its ends, and straight; -1: none.
func through(path []complex128) int {
	for i, p := range path {
		q := path[(i+1)%len(path)]
		a, b, c, d := int(real(p)), int(imag(p)), int(real(q)), int(imag(q))
		if min(a, c) <= 0 && max(a, c) >= 0 && min(b, d) <= 0 && max(b, d) >= 0 && a*d == b*c {
			return i
		}
	}
	return -1
}

// somePath of points up to that size.
func somePath(r *rand.Rand, reach int) []complex128 {
	var out []complex128
	part := func() float64 { return float64(r.Intn(2*reach+1) - reach) }
	for range 1 + r.Intn(12) {
		out = append(out, complex(part(), part()))
	}
	return out
}

func TestWindingByItsWords(t *testing.T) {
	r := rand.New(rand.NewSource(1510))
	counts := map[int]int{}
	faults := 0
	for i := range 20000 {
		path := somePath(r, []int{1, 2, 3, 10, top}[i%5])
		at := through(path)
		n, err := Winding(path)
		if at >= 0 {
			told(t, err, api.ErrOrder, at, path)
			if n != 0 {
				t.Error(path, n)
			}
			faults++
			continue
		}
		if err != nil || n != byAngles(path) {
			t.Fatal(path, n, err, byAngles(path))
		}
		counts[n]++
	}
	if faults < 2000 || counts[0] < 1000 || counts[1] < 1000 || counts[-1] < 1000 || counts[2] < 50 || counts[-2] < 50 {
		t.Error("too few", faults, counts)
	}
}

// goodPath goes not through 0.
func goodPath(r *rand.Rand, reach int) []complex128 {
	for {
		if path := somePath(r, reach); through(path) < 0 {
			return path
		}
	}
}

// TestBackward: P155; and what else does not change, or turns with the path.
func TestBackward(t *testing.T) {
	r := rand.New(rand.NewSource(1511))
	turned := 0
	for i := range 3000 {
		path := goodPath(r, []int{2, 5, 30, top}[i%4])
		n := windingOf(t, path)
		back := slices.Clone(path)
		slices.Reverse(back)
		if windingOf(t, back) != -n {
			t.Fatal(path, n)
		}
		first := r.Intn(len(path))
		if windingOf(t, slices.Concat(path[first:], path[:first])) != n {
			t.Fatal(path, first, n)
		}
		if windingOf(t, slices.Concat(path, path, path)) != 3*n {
			t.Fatal(path, n)
		}
		var quarter, mirror, twice []complex128
		for _, p := range path {
			quarter = append(quarter, 1i*p)
			mirror = append(mirror, cmplx.Conj(p))
			twice = append(twice, p, p)
		}
		if windingOf(t, quarter) != n || windingOf(t, mirror) != -n || windingOf(t, twice) != n {
			t.Fatal(path, n)
		}
		if n != 0 {
			turned++
		}
	}
	if turned < 500 {
		t.Error("too few", turned)
	}
}

// TestJoinedPaths: from one point, they add up.
func TestJoinedPaths(t *testing.T) {
	r := rand.New(rand.NewSource(1512))
	for done := 0; done < 500; {
		a, b := goodPath(r, 6), goodPath(r, 6)
		b[0] = a[0]
		if through(b) >= 0 {
			continue
		}
		done++
		if windingOf(t, slices.Concat(a, b)) != windingOf(t, a)+windingOf(t, b) {
			t.Fatal(a, b)
		}
	}
}

func TestThrough0(t *testing.T) {
	for name, c := range map[string]struct {
		path []complex128
		at   int
	}{
		"0":                        {[]complex128{0}, 0},
		"0 below 0":                {[]complex128{complex(math.Copysign(0, -1), 0)}, 0},
		"from 0":                   {[]complex128{0, 1}, 0},
		"to 0":                     {[]complex128{1, 0}, 0},
		"to 0, later":              {[]complex128{1, 1i, -1, 0}, 2},
		"back through 0":           {[]complex128{1, 1i, -1}, 2},
		"through 0":                {[]complex128{1, 2, -1}, 1},
		"up through 0":             {[]complex128{5 - 3i, -3i, 4i}, 1},
		"askew":                    {[]complex128{2 + 4i, -3 - 6i, 1}, 0},
		"askew, the other way":     {[]complex128{1, -2 + 6i, 3 - 9i}, 1},
		"two times":                {[]complex128{1, 1i, -1i, 2, -2}, 1},
		"from bound to bound":      {[]complex128{1, top + top*1i, -top - top*1i}, 1},
		"there and back through 0": {[]complex128{3 + 1i, -3 - 1i}, 0},
		"all 0":                    {[]complex128{0, 0, 0}, 0},
	} {
		t.Run(name, func(t *testing.T) {
			n, err := Winding(c.path)
			told(t, err, api.ErrOrder, c.at, c.path)
			if n != 0 || through(c.path) != c.at {
				t.Error(n, through(c.path))
			}
		})
	}
}

func TestWrongPaths(t *testing.T) {
	inf, nan := math.Inf(1), math.NaN()
	for name, path := range map[string][]complex128{
		"none":                 nil,
		"an empty list":        {},
		"a half":               {0.5},
		"a half across":        {1, 0.5i},
		"a half, late":         {1, 1i, -1, -1.5i},
		"nearly whole":         {1, 1i, -1.0000000001},
		"a very small one":     {1, complex(5e-324, 1)},
		"one too great":        {top + 1},
		"one too great across": {(top + 1) * 1i},
		"one too low":          {-top - 1},
		"one too low across":   {1, (-top - 1) * 1i},
		"much too great":       {1e300},
		"no number":            {complex(nan, 1)},
		"no number across":     {1, complex(1, nan)},
		"without end":          {complex(inf, 1)},
		"without end, low":     {complex(-inf, 1)},
		"without end across":   {complex(1, inf)},
		"all of it":            {cmplx.Inf(), cmplx.NaN()},
		"also through 0":       {0, 1, -1, 0.5},
		"as many as may be":    append(make([]complex128, api.MaxFaces-1), 0.5),
	} {
		t.Run(name, func(t *testing.T) {
			n, err := Winding(path)
			bare(t, err, api.ErrShape, path)
			if n != 0 {
				t.Error(n)
			}
		})
	}
	for _, last := range []complex128{1, 0, 0.5, complex(nan, nan)} {
		n, err := Winding(append(slices.Repeat([]complex128{1}, api.MaxFaces), last))
		bare(t, err, api.ErrBound, last)
		if n != 0 {
			t.Error(n)
		}
	}
}

// TestGreatPaths: as many points as there may be, as far out as they may be.
func TestGreatPaths(t *testing.T) {
	start := time.Now()
	around := []complex128{top + top*1i, -top + (top-1)*1i, -(top - 1) - top*1i}
	if n := windingOf(t, slices.Repeat(around, 200)); n != 200 {
		t.Error(n)
	}
	if n := windingOf(t, slices.Repeat([]complex128{1, -1 - 1i, -1 + 1i}, 200)); n != -200 {
		t.Error(n)
	}
	if n := windingOf(t, slices.Repeat([]complex128{1}, 600)); n != 0 {
		t.Error(n)
	}
	r := rand.New(rand.NewSource(1513))
	for range 100 {
		var path []complex128
		for len(path) < 588 {
			path = append(path, goodPath(r, top)...)
		}
		if at := through(path); at < 0 && windingOf(t, path) != byAngles(path) {
			t.Error(path)
		}
	}
	if d := time.Since(start); d > 5*time.Second {
		t.Error(d)
	}
}

// TestExact: triangles with a side that misses 0 by as little as there is, on either side.
func TestExact(t *testing.T) {
	r := rand.New(rand.NewSource(1514))
	counts := map[int]int{}
	for range 4000 {
		a, b := top-r.Intn(1000), top-r.Intn(1000)
		c, d := bezout(a, b)
		if c > 0 {
			c, d = c-a, d-b
		}
		if r.Intn(2) == 0 { // the other side
			c, d = -a-c, -b-d
		}
		e, f := r.Intn(2*top+1)-top, r.Intn(2*top+1)-top
		path := []complex128{complex(float64(a), float64(b)), complex(float64(c), float64(d)), complex(float64(e), float64(f))}
		if through(path) >= 0 {
			continue
		}
		n := windingOf(t, path)
		if n != byTurns(a, b, c, d, e, f) {
			t.Fatal(path, n)
		}
		counts[n]++
	}
	if counts[0] < 500 || counts[1] < 500 || counts[-1] < 500 {
		t.Error("too few", counts)
	}
}

// bezout: numbers with a * y - b * x the greatest number that divides both.
func bezout(a, b int) (x, y int) {
	if b == 0 {
		return 0, 1
	}
	u, v := bezout(b, a%b)
	return -v, -(u + a/b*v)
}

// byTurns of a triangle: 0 is in it, if it is on one side of all lines.
func byTurns(a, b, c, d, e, f int) int {
	turns := []int{a*d - b*c, c*f - d*e, e*b - f*a}
	if slices.Min(turns) > 0 {
		return 1
	}
	if slices.Max(turns) < 0 {
		return -1
	}
	return 0
}

func TestPathOnlyRead(t *testing.T) {
	room := []complex128{1, 1i, -1, -1i, 7, 8}
	before := fmt.Sprint(room)
	if n := windingOf(t, room[:4]); n != 1 || fmt.Sprint(room) != before {
		t.Error(n, room)
	}
}
