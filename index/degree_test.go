package index

import (
	"fmt"
	"math/rand"
	"slices"
	"testing"

	"handlebody/api"
	"handlebody/cells"
	"handlebody/homology"
	"handlebody/manifold"
)

func TestDegree(t *testing.T) {
	for name, c := range map[string]struct {
		a, b string
		f    []int
		want int
	}{
		"twice around":             {six, circle, []int{0, 1, 2, 0, 1, 2}, 2},
		"twice, backward":          {six, circle, []int{2, 1, 0, 2, 1, 0}, -2},
		"once, with halts":         {six, circle, []int{0, 1, 1, 2, 2, 2}, 1},
		"to a vertex":              {six, circle, []int{1, 1, 1, 1, 1, 1}, 0},
		"to an edge":               {six, circle, []int{1, 2, 1, 2, 1, 2}, 0},
		"there and back":           {six, circle, []int{0, 1, 2, 0, 2, 1}, 0},
		"four times":               {twelve, circle, []int{0, 1, 2, 0, 1, 2, 0, 1, 2, 0, 1, 2}, 4},
		"twelve around six":        {twelve, six, []int{0, 5, 4, 3, 2, 1, 0, 5, 4, 3, 2, 1}, -2},
		"the same":                 {circle, circle, []int{0, 1, 2}, 1},
		"on by one":                {circle, circle, []int{1, 2, 0}, 1},
		"mirrored":                 {circle, circle, []int{0, 2, 1}, -1},
		"a sphere":                 {sphere, sphere, []int{0, 1, 2, 3}, 1},
		"a sphere, two changed":    {sphere, sphere, []int{1, 0, 2, 3}, -1},
		"a sphere, all changed":    {sphere, sphere, []int{3, 2, 1, 0}, 1},
		"a sphere to a triangle":   {sphere, sphere, []int{0, 1, 2, 2}, 0},
		"eight sides to four":      {octa, sphere, []int{0, 1, 2, 3, 0, 1}, 0},
		"the opposite points":      {octa, octa, []int{3, 5, 4, 0, 2, 1}, -1},
		"another sphere":           {sphere, "10 20 30; 10 20 40; 10 30 40; 20 30 40", []int{10, 20, 30, 40}, 1},
		"dimension 3":              {solid, solid, []int{0, 1, 2, 3, 4}, 1},
		"dimension 3, two changed": {solid, solid, []int{0, 1, 4, 3, 2}, -1},
		"dimension 3, five around": {solid, solid, []int{1, 2, 3, 4, 0}, 1},
		"a torus, turned":          {torus, torus, []int{1, 2, 3, 4, 5, 6, 0}, 1},
		"a torus, times three":     {torus, torus, []int{0, 3, 6, 2, 5, 1, 4}, 1},
		"a torus to a sphere":      {torus, sphere, []int{0, 0, 1, 1, 2, 2, 3}, 0},
	} {
		t.Run(name, func(t *testing.T) {
			a, b := read(t, c.a), read(t, c.b)
			got := degreeOf(t, a, b, c.f)
			if got != c.want {
				t.Error(got, "want", c.want)
			}
			plainDegree(t, a, b, c.f, got)
		})
	}
}

// plainDegree: each facet of b has the same sum.
func plainDegree(t *testing.T, a, b cells.Complex, f []int, want int) {
	t.Helper()
	signs, others := signsOf(t, a), signsOf(t, b)
	vertices := verticesOf(t, a)
	for k, goal := range b.Facets {
		sum := 0
		for i, facet := range a.Facets {
			sum += signs[i] * others[k] * plainSign(imagesOf(vertices, f, facet), goal)
		}
		if sum != want {
			t.Error(a, b, f, goal, sum, want)
		}
	}
}

func signsOf(t *testing.T, c cells.Complex) []int {
	t.Helper()
	l, ok, err := manifold.Orient(c)
	if err != nil || !ok {
		t.Fatal(c, ok, err)
	}
	return l
}

// closed connected ones that can be oriented, by dimension; the first of each may have any images of as many vertices as it has.
func closed(t *testing.T) [][]cells.Complex {
	t.Helper()
	return [][]cells.Complex{
		{ring(t, 3), ring(t, 6), ring(t, 12), ring(t, 4), ring(t, 40)},
		{read(t, sphere), read(t, octa), read(t, torus), grid(t, 3, 3), grid(t, 5, 6)},
		{read(t, solid), prism(t, 3, 3), prism(t, 5, 5)},
	}
}

// someShape of one of the lists, its vertices given anew now and then.
func someShape(t *testing.T, r *rand.Rand, l []cells.Complex) cells.Complex {
	t.Helper()
	c := l[r.Intn(len(l))]
	if r.Intn(2) == 0 {
		c = renamed(t, r, c)
	}
	return c
}

func TestDegreeByItsWords(t *testing.T) {
	r := rand.New(rand.NewSource(1530))
	counts := map[int]int{}
	all := closed(t)
	for i := range 400 {
		l := all[i%3]
		a, b := someShape(t, r, l), someShape(t, r, l)
		if i%4 > 0 {
			b = someShape(t, r, l[:1])
		}
		f := someMap(t, r, a, b)
		if f == nil {
			continue
		}
		n := degreeOf(t, a, b, f)
		plainDegree(t, a, b, f, n)
		counts[n]++
	}
	if counts[0] < 50 || counts[1] < 20 || counts[-1] < 20 || counts[2]+counts[-2] < 5 {
		t.Error("too few", counts)
	}
}

// someOrder of a complex's vertices: a map of one that has all of them in faces alike.
func someOrder(t *testing.T, r *rand.Rand, a, b cells.Complex) []int {
	t.Helper()
	out := verticesOf(t, b)
	r.Shuffle(len(out), func(i, k int) { out[i], out[k] = out[k], out[i] })
	bare(t, Check(a, b, out), nil, a, b, out)
	return out
}

// TestBehind: P155: the degree of one map behind another one is the product.
func TestBehind(t *testing.T) {
	r := rand.New(rand.NewSource(1531))
	counts := map[int]int{}
	all := closed(t)
	for i := range 400 {
		l := all[i%3]
		a, b, c := someShape(t, r, l), someShape(t, r, l), someShape(t, r, l)
		if i%4 > 0 {
			b, c = someShape(t, r, l[:1]), someShape(t, r, l[:1])
		}
		f, g := someMap(t, r, a, b), someMap(t, r, b, c)
		if i%4 > 0 {
			g = someOrder(t, r, b, c)
		}
		if f == nil || g == nil {
			continue
		}
		n := degreeOf(t, a, b, f) * degreeOf(t, b, c, g)
		if both := degreeOf(t, a, c, behind(t, b, f, g)); both != n {
			t.Fatal(a, b, c, f, g, both, n)
		}
		counts[n]++
	}
	if counts[0] < 50 || counts[1] < 20 || counts[-1] < 20 || counts[2]+counts[-2] < 5 {
		t.Error("too few", counts)
	}
}

// TestBehindMany: products of greater numbers.
func TestBehindMany(t *testing.T) {
	twelve, six, three := read(t, twelve), read(t, six), read(t, circle)
	f := []int{0, 5, 4, 3, 2, 1, 0, 5, 4, 3, 2, 1}
	g := []int{0, 1, 2, 0, 1, 2}
	if n := degreeOf(t, twelve, three, behind(t, six, f, g)); n != -4 {
		t.Error(n)
	}
	great, less := grid(t, 6, 9), grid(t, 3, 3)
	f = nil
	for i := range 54 {
		f = append(f, i/9%3*3+i%3)
	}
	g = []int{0, 3, 6, 1, 4, 7, 2, 5, 8} // rows and columns change places
	if n := degreeOf(t, great, less, f); n != 6 {
		t.Error(n)
	}
	if n := degreeOf(t, less, less, g); n != -1 {
		t.Error(n)
	}
	if n := degreeOf(t, great, less, behind(t, less, f, g)); n != -6 {
		t.Error(n)
	}
}

// TestSame: P155: of the identity the degree is 1.
func TestSame(t *testing.T) {
	r := rand.New(rand.NewSource(1532))
	for _, l := range closed(t) {
		for _, c := range l {
			for range 5 {
				c = renamed(t, r, c)
				if n := degreeOf(t, c, c, verticesOf(t, c)); n != 1 {
					t.Error(c, n)
				}
			}
		}
	}
}

// TestDegreeOfPaths: a way around a ring winds as often as its map does.
func TestDegreeOfPaths(t *testing.T) {
	r := rand.New(rand.NewSource(1533))
	spots := []complex128{3, 2 + 2i, 3i, -2 + 2i, -3, -2 - 2i, -3i, 2 - 2i}
	counts := map[int]int{}
	for i := range 400 {
		at := 0
		var f []int
		var path []complex128
		for len(f) < 3 || at%len(spots) != 0 { // steps to the left, on the spot, to the right, more of one kind
			f = append(f, (at%len(spots)+len(spots))%len(spots))
			path = append(path, spots[f[len(f)-1]])
			at += max(min(r.Intn(4)-1-i%2, 1), -1)
		}
		if len(f) > 99 {
			continue
		}
		a, b := ring(t, len(f)), ring(t, len(spots))
		n := windingOf(t, path)
		if signsOf(t, a)[0]*signsOf(t, b)[0] != 1 || degreeOf(t, a, b, f) != n || n != at/len(spots) {
			t.Fatal(f, n, at)
		}
		counts[n]++
	}
	if counts[0] < 50 || counts[1] < 50 || counts[-1] < 50 {
		t.Error("too few", counts)
	}
}

// TestFromSpheres: nothing that is around a sphere goes around a torus.
func TestFromSpheres(t *testing.T) {
	r := rand.New(rand.NewSource(1534))
	b := read(t, torus)
	for range 200 {
		a := renamed(t, r, read(t, []string{sphere, octa}[r.Intn(2)]))
		if f := someMap(t, r, a, b); f != nil && degreeOf(t, a, b, f) != 0 {
			t.Fatal(a, f)
		}
	}
}

func TestNoDegree(t *testing.T) {
	const (
		two   = "0 1; 1 2; 0 2; 3 4; 4 5; 3 5"
		pair  = "0 1 2; 0 1 3; 0 2 3; 1 2 3; 4 5 6; 4 5 7; 4 6 7; 5 6 7"
		fork  = "0 1; 0 2; 0 3"
		ball4 = "0 1 2 3 4"
		band  = "0 1 3; 1 3 4; 1 2 4; 2 4 5; 0 2 5; 0 3 5"
	)
	zeros := func(n int) []int { return make([]int, n) }
	for name, c := range map[string]struct {
		a, b string
		f    []int
		want error
	}{
		"nothing":                               {"", circle, nil, api.ErrBound},
		"nothing, twice":                        {"", "", nil, api.ErrBound},
		"a point":                               {"0", "0", zeros(1), api.ErrBound},
		"to a point":                            {circle, "0", zeros(3), api.ErrBound},
		"from a point":                          {"0", circle, zeros(1), api.ErrBound},
		"of dimension 4":                        {ball4, ball4, zeros(5), api.ErrBound},
		"to dimension 4":                        {circle, ball4, zeros(3), api.ErrBound},
		"no manifold":                           {fork, circle, zeros(4), api.ErrKind},
		"to no manifold":                        {circle, fork, zeros(3), api.ErrKind},
		"no manifold to a point":                {fork, "0", zeros(4), api.ErrKind},
		"a point to no manifold":                {"0", fork, zeros(1), api.ErrBound},
		"an edge":                               {"0 1", "0 1", zeros(2), api.ErrKind},
		"a rim, to a point":                     {"0 1", "0", zeros(2), api.ErrBound},
		"a rim, to dimension 4":                 {"0 1 2", ball4, zeros(3), api.ErrBound},
		"a rim, to another dimension":           {"0 1 2", circle, zeros(3), api.ErrKind},
		"to a rim":                              {circle, "0 1", zeros(3), api.ErrKind},
		"to a rim of another dimension":         {circle, "0 1 2", zeros(3), api.ErrKind},
		"a solid ball":                          {"0 1 2 3", solid, zeros(4), api.ErrKind},
		"a band":                                {band, sphere, zeros(6), api.ErrKind},
		"a turned band":                         {moebius, sphere, zeros(5), api.ErrKind},
		"two circles":                           {two, circle, zeros(6), api.ErrKind},
		"to two circles":                        {circle, two, zeros(3), api.ErrKind},
		"two circles, to another dimension":     {two, sphere, zeros(6), api.ErrKind},
		"two spheres":                           {pair, sphere, zeros(8), api.ErrKind},
		"to two spheres":                        {sphere, pair, zeros(4), api.ErrKind},
		"a plane":                               {plane, plane, []int{0, 1, 2, 3, 4, 5}, api.ErrKind},
		"a plane to a sphere":                   {plane, sphere, zeros(6), api.ErrKind},
		"a sphere to a plane":                   {sphere, plane, zeros(4), api.ErrKind},
		"a circle to a plane":                   {circle, plane, zeros(3), api.ErrKind},
		"a circle and a point":                  {circle + "; 5", circle, zeros(4), api.ErrKind},
		"a circle to a sphere":                  {circle, sphere, []int{0, 1, 2}, api.ErrShape},
		"a sphere to a circle":                  {sphere, circle, zeros(4), api.ErrShape},
		"a sphere to a sphere of dimension 3":   {sphere, solid, zeros(4), api.ErrShape},
		"a sphere of dimension 3 to a circle":   {solid, circle, zeros(5), api.ErrShape},
		"a torus to a circle, all of it around": {torus, six, zeros(7), api.ErrShape},
	} {
		t.Run(name, func(t *testing.T) {
			a, b := read(t, c.a), read(t, c.b)
			n, err := Degree(a, b, c.f)
			bare(t, err, c.want, a, b, c.f)
			if n != 0 {
				t.Error(n)
			}
			bare(t, Check(a, b, c.f), nil, a, b, c.f)
		})
	}
}

// TestWhatHasADegree: of all kinds of complexes, as the words say it.
func TestWhatHasADegree(t *testing.T) {
	r := rand.New(rand.NewSource(1535))
	counts := map[string]int{}
	bases := []string{circle, six, sphere, octa, torus, solid, plane, moebius, "0 1", "0 1 2", "0 1 2 3", "0 1; 1 2; 0 2; 3 4; 4 5; 3 5", "0; 1", "", "0 1; 0 2; 0 3"}
	for range 700 {
		a, b := renamed(t, r, read(t, bases[r.Intn(len(bases))])), renamed(t, r, read(t, bases[r.Intn(len(bases))]))
		if len(b.Facets) == 0 && len(a.Facets) > 0 {
			continue
		}
		var f []int
		for range verticesOf(t, a) {
			f = append(f, verticesOf(t, b)[0])
		}
		want := plainError(t, a, b)
		n, err := Degree(a, b, f)
		bare(t, err, want, a, b)
		if n != 0 { // all is taken to a point
			t.Error(a, b, n)
		}
		counts[fmt.Sprint(want)]++
	}
	if len(counts) != 4 {
		t.Error("too few", counts)
	}
}

func plainError(t *testing.T, a, b cells.Complex) error {
	t.Helper()
	for _, c := range []cells.Complex{a, b} {
		if _, _, err := manifold.Orient(c); err != nil {
			return err
		}
	}
	for _, c := range []cells.Complex{a, b} {
		rim, err := manifold.Rim(c)
		_, ok, bad := manifold.Orient(c)
		if err != nil || bad != nil {
			t.Fatal(c, err, bad)
		}
		if len(rim.Facets) > 0 || !ok || frees(t, c)[0] != 1 {
			return api.ErrKind
		}
	}
	if len(frees(t, a)) != len(frees(t, b)) {
		return api.ErrShape
	}
	return nil
}

// frees: of the groups of each dimension.
func frees(t *testing.T, c cells.Complex) []int {
	t.Helper()
	l, err := homology.Complex(c)
	if err != nil {
		t.Fatal(c, err)
	}
	groups, err := homology.Of(l)
	if err != nil {
		t.Fatal(c, err)
	}
	var out []int
	for _, g := range groups {
		out = append(out, g.Free)
	}
	return out
}

// TestManyTimes: rings around each other, all degrees that there is room for.
func TestManyTimes(t *testing.T) {
	three := ring(t, 3)
	for times := 1; times <= 33; times++ {
		var f []int
		for i := range 3 * times {
			f = append(f, i%3)
		}
		a := ring(t, 3*times)
		if n := degreeOf(t, a, three, f); n != times {
			t.Error(times, n)
		}
		slices.Reverse(f)
		if n := degreeOf(t, a, three, f); n != -times {
			t.Error(times, n)
		}
	}
}
