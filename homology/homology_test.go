package homology

import (
	"errors"
	"fmt"
	"math"
	"math/big"
	"math/rand"
	"slices"
	"strings"
	"testing"

	"handlebody/api"
	"handlebody/cells"
	"handlebody/cubes"
	"handlebody/morse"
	"handlebody/smith"
)

const (
	circle  = "0 1; 0 2; 1 2"
	sphere  = "0 1 2; 0 1 3; 0 2 3; 1 2 3"
	torus   = "0 1 3; 1 2 4; 2 3 5; 3 4 6; 0 4 5; 1 5 6; 0 2 6; 0 2 3; 1 3 4; 2 4 5; 3 5 6; 0 4 6; 0 1 5; 1 2 6"
	plane   = "0 1 2; 0 2 3; 0 3 4; 0 4 5; 0 1 5; 1 2 4; 2 3 5; 1 3 4; 2 4 5; 1 3 5"
	moebius = "0 1 2; 1 2 3; 2 3 4; 0 3 4; 0 1 4"
	dunce   = "0 1 3; 0 1 6; 0 1 7; 0 2 3; 0 2 4; 0 2 5; 0 4 5; 0 6 7; 1 2 4; 1 2 6; 1 2 7; 1 3 4; 2 3 7; 2 5 6; 3 4 5; 3 5 7; 5 6 7"
)

func shapes() []string {
	return []string{"7", "0; 1", "0; 5; 99", "0 1", circle, "0 1; 0 2; 1 2; 3", "0 1 2; 2 3", sphere, torus, plane, moebius, dunce, "0 1 2 3", "0 1 2 3; 2 3 4; 4 5; 5 6; 4 6", "0 1 2 3 4 5 6", "0 1 2 3; 0 1 2 4; 0 1 3 4; 0 2 3 4; 1 2 3 4"}
}

func read(t *testing.T, text string) cells.Complex {
	t.Helper()
	c, err := cells.Read(text)
	if err != nil {
		t.Fatal(text, err)
	}
	return c
}

func mat(rows, cols int, l ...int) smith.Matrix { return smith.Matrix{Rows: rows, Cols: cols, L: l} }

func zeros(rows, cols int) smith.Matrix { return mat(rows, cols, make([]int, rows*cols)...) }

// random complex of so many vertices at most.
func random(r *rand.Rand, vertices, sets, size int) cells.Complex {
	var l [][]int
	for range r.Intn(sets + 1) {
		l = append(l, r.Perm(vertices)[:1+r.Intn(size)])
	}
	c, _ := cells.Make(l)
	return c
}

func groupsOf(t *testing.T, c cells.Complex) []api.Group {
	t.Helper()
	l, err := Complex(c)
	if err != nil {
		t.Fatal(c, err)
	}
	g, err := Of(l)
	if err != nil {
		t.Fatal(c, err)
	}
	return g
}

// trimmed: told without the groups of nothing behind the last other one.
func trimmed(l []api.Group) string {
	for len(l) > 0 && l[len(l)-1].Free == 0 && len(l[len(l)-1].Torsion) == 0 {
		l = l[:len(l)-1]
	}
	return fmt.Sprint(l)
}

// wrong chains, and what Valid tells of them.
func wrong() map[string]struct {
	l    Chain
	want error
} {
	type row = struct {
		l    Chain
		want error
	}
	first, one := mat(0, 1), func(x int) smith.Matrix { return mat(1, 1, x) }
	most := slices.Repeat(Chain{first, one(0)}, 4)
	most[2], most[4], most[6] = one(0), one(0), one(0)
	return map[string]row{
		"nine matrices":                   {append(slices.Clone(most), one(0)), api.ErrBound},
		"nine wrong matrices":             {slices.Repeat(Chain{one(math.MaxInt)}, 9), api.ErrBound},
		"nine empty ones":                 {make(Chain, 9), api.ErrBound},
		"too many columns":                {Chain{mat(0, 301)}, api.ErrBound},
		"too many rows":                   {Chain{mat(301, 0)}, api.ErrBound},
		"columns below 0":                 {Chain{mat(0, -1)}, api.ErrBound},
		"sides whose product wraps":       {Chain{mat(1<<32, 1<<32)}, api.ErrBound},
		"a list too short":                {Chain{first, mat(1, 1)}, api.ErrShape},
		"a list too long":                 {Chain{mat(0, 1, 7)}, api.ErrShape},
		"an entry too great":              {Chain{first, one(api.MaxEntry + 1)}, api.ErrShape},
		"an entry too little":             {Chain{first, one(math.MinInt)}, api.ErrShape},
		"a wrong list, then a wrong side": {Chain{first, mat(1, 1), mat(0, 301)}, api.ErrShape},
		"a wrong side, then a wrong list": {Chain{first, mat(1, -1), mat(1, 1)}, api.ErrBound},
		"the first has rows":              {Chain{one(1)}, api.ErrShape},
		"the first has rows of nothing":   {Chain{mat(1, 0)}, api.ErrShape},
		"rows, then a wrong side":         {Chain{one(1), mat(0, 301)}, api.ErrBound},
		"more rows than columns ahead":    {Chain{first, mat(2, 0)}, api.ErrShape},
		"fewer rows than columns ahead":   {Chain{first, mat(0, 1)}, api.ErrShape},
		"no order, then no shape":         {Chain{first, one(1), one(1), mat(2, 0)}, api.ErrShape},
		"no order":                        {Chain{first, one(2), one(3)}, api.ErrOrder},
		"no order at the end":             {Chain{first, one(0), one(0), one(0), one(0), one(0), one(-1), one(1)}, api.ErrOrder},
		"no order by one":                 {Chain{mat(0, 1), mat(1, 2, api.MaxEntry, api.MaxEntry), mat(2, 1, api.MaxEntry, 1-api.MaxEntry)}, api.ErrOrder},
		"no order in one place":           {Chain{mat(0, 2), mat(2, 2, 0, 0, 0, 1), mat(2, 2, 1, 1, 0, 1)}, api.ErrOrder},
	}
}

func TestValid(t *testing.T) {
	for name, c := range wrong() {
		if err := Valid(c.l); err != c.want {
			t.Error(name, err)
		}
	}
	one := func(x int) smith.Matrix { return mat(1, 1, x) }
	row, col := zeros(1, 300), zeros(300, 1)
	for i := range 300 {
		row.L[i], col.L[i] = api.MaxEntry, api.MaxEntry*(1-2*(i%2))
	}
	for i, l := range []Chain{nil, {}, {{}}, {mat(0, 1)}, {mat(0, 300)}, {mat(0, 1), one(api.MaxEntry)}, {mat(0, 1), one(2), one(0), one(3)}, {mat(0, 2), mat(2, 0), mat(0, 2), mat(2, 0)},
		{mat(0, 1), row, col}, {mat(0, 300), zeros(300, 300), zeros(300, 300)}, make(Chain, 8), {mat(0, 1), one(0), one(0), one(0), one(0), one(0), one(0), one(-1)}} {
		if err := Valid(l); err != nil {
			t.Error(i, err)
		}
	}
	row.L[299]--
	if err := Valid(Chain{mat(0, 1), row, col}); err != api.ErrOrder {
		t.Error(err)
	}
}

func TestWrongChainsEverywhere(t *testing.T) {
	for name, c := range wrong() {
		if g, err := Of(c.l); len(g) > 0 || err != c.want {
			t.Error(name, "Of", g, err)
		}
		for _, p := range []int{0, 2, 4} { // Valid's errors come ahead of ErrKind
			if n, err := Mod(c.l, p); len(n) > 0 || err != c.want {
				t.Error(name, "Mod", n, err)
			}
		}
	}
}

// steps: a matrix whose factors are 1, but for the product of these numbers.
func steps(l ...int) smith.Matrix {
	m := zeros(len(l), len(l))
	for i, x := range l {
		m.L[i*len(l)+i] = x
		if i > 0 {
			m.L[(i-1)*len(l)+i] = 1
		}
	}
	return m
}

func TestOf(t *testing.T) {
	k := 1 << 20
	for _, c := range []struct {
		l    Chain
		want string
		err  error
	}{
		{nil, "[]", nil}, {Chain{{}}, "[{0 []}]", nil}, {Chain{mat(0, 5)}, "[{5 []}]", nil},
		{Chain{mat(0, 1), mat(1, 1, 6)}, "[{0 [6]} {0 []}]", nil}, {Chain{mat(0, 1), mat(1, 1, -6)}, "[{0 [6]} {0 []}]", nil}, {Chain{mat(0, 1), mat(1, 1, 0)}, "[{1 []} {1 []}]", nil}, {Chain{mat(0, 1), mat(1, 1, 1)}, "[{0 []} {0 []}]", nil},
		{Chain{mat(0, 2), mat(2, 2, 2, 4, 6, 8)}, "[{0 [2 4]} {0 []}]", nil}, {Chain{mat(0, 2), mat(2, 2, 4, 0, 0, 6)}, "[{0 [2 12]} {0 []}]", nil}, {Chain{mat(0, 3), mat(3, 1, 0, 5, 0)}, "[{2 [5]} {0 []}]", nil},
		{Chain{mat(0, 1), mat(1, 3, 0, 0, 0), mat(3, 2, 1, 0, 0, 3, 0, 0)}, "[{1 []} {1 [3]} {0 []}]", nil}, {Chain{mat(0, 0), mat(0, 2), mat(2, 0), mat(0, 1)}, "[{0 []} {2 []} {0 []} {1 []}]", nil},
		{Chain{mat(0, 4), steps(k, k, k, 4)}, "[{0 [4611686018427387904]} {0 []}]", nil}, {Chain{mat(0, 4), steps(k, k, k, 5)}, "[]", api.ErrBound}, {Chain{mat(0, 0), mat(0, 4), steps(k, k, k, 3)}, "[{0 []} {0 [3458764513820540928]} {0 []}]", nil},
		{Chain{mat(0, 5), steps(k, k, k, k, 1), zeros(5, 1)}, "[]", api.ErrBound}, {Chain{mat(0, 1), zeros(1, 4), steps(k, k, k, 8)}, "[]", api.ErrBound},
	} {
		if g, err := Of(c.l); fmt.Sprint(g) != c.want || err != c.err {
			t.Error(c.l, g, err)
		}
	}
}

func TestMod(t *testing.T) {
	k := 1 << 20
	six := Chain{mat(0, 1), mat(1, 1, 6)}
	for _, c := range []struct {
		l    Chain
		p    int
		want string
		err  error
	}{
		{nil, 0, "[]", nil}, {nil, 2, "[]", nil}, {nil, 4, "[]", api.ErrKind}, {Chain{}, -2, "[]", api.ErrKind}, {Chain{{}}, 1, "[]", api.ErrKind}, {Chain{{}}, 5, "[0]", nil},
		{six, 0, "[0 0]", nil}, {six, 2, "[1 1]", nil}, {six, 3, "[1 1]", nil}, {six, 5, "[0 0]", nil}, {six, 6, "[]", api.ErrKind}, {six, 9973, "[0 0]", nil}, {six, 9967, "[0 0]", nil}, {six, 10007, "[]", api.ErrKind}, {six, math.MinInt, "[]", api.ErrKind}, {six, math.MaxInt, "[]", api.ErrKind},
		{Chain{mat(0, 1), mat(1, 1, 9973)}, 9973, "[1 1]", nil}, {Chain{mat(0, 4), steps(k, k, k, 5)}, 5, "[1 1]", nil}, {Chain{mat(0, 4), steps(k, k, k, 5)}, 0, "[0 0]", nil},
		{Chain{mat(0, 1), mat(1, 3, 0, 0, 0), mat(3, 2, 1, 0, 0, 3, 0, 0)}, 3, "[1 2 1]", nil}, {Chain{mat(0, 1), mat(1, 3, 0, 0, 0), mat(3, 2, 1, 0, 0, 3, 0, 0)}, 2, "[1 1 0]", nil},
	} {
		if n, err := Mod(c.l, c.p); fmt.Sprint(n) != c.want || err != c.err {
			t.Error(c.l, c.p, n, err)
		}
	}
}

func TestKnownShapes(t *testing.T) {
	for text, want := range map[string]string{"": "[]", "7": "[{1 []}]", "0; 5; 99": "[{3 []}]", circle: "[{1 []} {1 []}]", sphere: "[{1 []} {0 []} {1 []}]", torus: "[{1 []} {2 []} {1 []}]", plane: "[{1 []} {0 [2]} {0 []}]", moebius: "[{1 []} {1 []} {0 []}]", dunce: "[{1 []} {0 []} {0 []}]",
		"0 1 2 3 4 5 6": "[{1 []} {0 []} {0 []} {0 []} {0 []} {0 []} {0 []}]", "0 1; 0 2; 1 2; 3": "[{2 []} {1 []}]", plane + "; 10 11; 10 12; 11 12; 20": "[{3 []} {1 [2]} {0 []}]"} {
		if got := fmt.Sprint(groupsOf(t, read(t, text))); got != want {
			t.Error(text, got)
		}
	}
}

func same(a, b smith.Matrix) bool {
	return a.Rows == b.Rows && a.Cols == b.Cols && slices.Equal(a.L, b.L)
}

// listed: all faces, told from the facets alone, by dimensions.
func listed(c cells.Complex) [][][]int {
	seen := map[string]bool{}
	var out [][][]int
	for _, facet := range c.Facets {
		for bits := 1; bits < 1<<len(facet); bits++ {
			var face []int
			for i, v := range facet {
				if bits>>i&1 == 1 {
					face = append(face, v)
				}
			}
			for len(out) < len(face) {
				out = append(out, nil)
			}
			if key := fmt.Sprint(face); !seen[key] {
				seen[key] = true
				out[len(face)-1] = append(out[len(face)-1], face)
			}
		}
	}
	for _, l := range out {
		slices.SortFunc(l, slices.Compare[[]int])
	}
	return out
}

// signOf a face in another one's boundary; 0 if it is none.
func signOf(part, face []int) int {
	for i := range face {
		if slices.Equal(part, slices.Delete(slices.Clone(face), i, i+1)) {
			return 1 - 2*(i%2)
		}
	}
	return 0
}

// plainChain of faces by dimensions.
func plainChain(faces [][][]int) Chain {
	var out Chain
	var rows [][]int
	for _, cols := range faces {
		m := zeros(len(rows), len(cols))
		for i, part := range rows {
			for k, face := range cols {
				m.L[i*m.Cols+k] = signOf(part, face)
			}
		}
		out, rows = append(out, m), cols
	}
	return out
}

func askChain(t *testing.T, what any, got, want Chain, err error) {
	t.Helper()
	if err != nil || !slices.EqualFunc(got, want, same) {
		t.Fatal(what, got, want, err)
	}
}

func TestComplexAndRelativeFaceByFace(t *testing.T) {
	r := rand.New(rand.NewSource(1))
	var all []cells.Complex
	for _, text := range append(shapes(), "") {
		all = append(all, read(t, text))
	}
	for range 300 {
		all = append(all, random(r, 8, 6, 5))
	}
	for _, c := range all {
		faces := listed(c)
		got, err := Complex(c)
		askChain(t, c, got, plainChain(faces), err)
		if len(c.Facets) > 0 && len(got) != len(faces) {
			t.Fatal(c, len(got))
		}
		for range 4 {
			sub := partOf(r, c)
			gone := listed(sub)
			left := slices.Clone(faces)
			for dim := range gone {
				left[dim] = slices.DeleteFunc(slices.Clone(left[dim]), func(f []int) bool {
					return slices.ContainsFunc(gone[dim], func(g []int) bool { return slices.Equal(f, g) })
				})
			}
			got, err := Relative(c, sub)
			askChain(t, fmt.Sprint(c, sub), got, plainChain(left), err)
			if err := Valid(got); err != nil {
				t.Fatal(c, sub, err)
			}
		}
	}
}

// partOf a complex, by chance: some of its faces with theirs; sometimes none, or all.
func partOf(r *rand.Rand, c cells.Complex) cells.Complex {
	if r.Intn(10) == 0 {
		return c
	}
	var l [][]int
	for _, faces := range listed(c) {
		for _, f := range faces {
			if r.Intn(8) == 0 {
				l = append(l, f)
			}
		}
	}
	out, _ := cells.Make(l)
	return out
}

func TestRelative(t *testing.T) {
	for _, c := range []struct{ c, sub, want string }{
		{"", "", "[]"}, {"0 1 2", circle, "[{0 []} {0 []} {1 []}]"}, {"0 1 2", "", "[{1 []} {0 []} {0 []}]"}, {"0 1 2", "0 1 2", "[{0 []} {0 []} {0 []}]"}, {"0 1", "0; 1", "[{0 []} {1 []}]"}, {"0 1", "0", "[{0 []} {0 []}]"}, {"0; 1; 2", "1", "[{2 []}]"},
		{circle, "0 1; 0 2", "[{0 []} {1 []}]"}, {moebius, "0 2; 2 4; 1 4; 1 3; 0 3", "[{0 []} {0 [2]} {0 []}]"}, {plane, "0", "[{0 []} {0 [2]} {0 []}]"}, {torus, "0 1; 0 3; 1 3", "[{0 []} {2 []} {2 []}]"},
	} {
		l, err := Relative(read(t, c.c), read(t, c.sub))
		if err != nil {
			t.Error(c, err)
		}
		if g, err := Of(l); fmt.Sprint(g) != c.want || err != nil {
			t.Error(c, g, err)
		}
	}
	for _, c := range [][2]string{{circle, "0 3"}, {circle, "3"}, {circle, "0 1 2"}, {"", "0"}, {"0; 1", "0 1"}, {"0 1 2", "0 1 2 3"}, {"0 1; 2", "0 1; 1 2"}, {"0 2", "1"}, {"5", "0 1 2 3 4 5 6"}} {
		if l, err := Relative(read(t, c[0]), read(t, c[1])); len(l) > 0 || err != api.ErrFace {
			t.Error(c, l, err)
		}
	}
}

// What is not in a part has the homology of the whole with a cone over that part, but for a point.
func TestRelativeByCones(t *testing.T) {
	r := rand.New(rand.NewSource(2))
	for range 400 {
		c := random(r, 8, 7, 4)
		sub := partOf(r, c)
		if len(sub.Facets) == 0 {
			continue
		}
		l, err := Relative(c, sub)
		if err != nil {
			t.Fatal(c, sub, err)
		}
		g, err := Of(l)
		if err != nil {
			t.Fatal(c, sub, err)
		}
		var cone [][]int
		for _, f := range sub.Facets {
			cone = append(cone, append(slices.Clone(f), 99))
		}
		both, err := cells.Make(append(cone, c.Facets...))
		if err != nil {
			t.Fatal(err)
		}
		if want, err := Reduced(both); trimmed(g) != trimmed(want) || err != nil {
			t.Fatal(c, sub, g, want, err)
		}
	}
}

func TestReduced(t *testing.T) {
	for text, want := range map[string]string{"7": "[{0 []}]", "0; 5; 99": "[{2 []}]", circle: "[{0 []} {1 []}]", plane: "[{0 []} {0 [2]} {0 []}]", sphere: "[{0 []} {0 []} {1 []}]"} {
		if g, err := Reduced(read(t, text)); fmt.Sprint(g) != want || err != nil {
			t.Error(text, g, err)
		}
	}
	for _, c := range []cells.Complex{{}, {Facets: [][]int{}}} {
		if g, err := Reduced(c); len(g) > 0 || err != api.ErrNone {
			t.Error(g, err)
		}
	}
}

func TestWrongComplexesEverywhere(t *testing.T) {
	good := read(t, circle)
	for name, c := range map[string]struct {
		c    cells.Complex
		want error
	}{
		"an empty face":      {cells.Complex{Facets: [][]int{{}}}, api.ErrFace},
		"a vertex twice":     {cells.Complex{Facets: [][]int{{1, 1}}}, api.ErrFace},
		"no vertex":          {cells.Complex{Facets: [][]int{{-1}}}, api.ErrFace},
		"a vertex too great": {cells.Complex{Facets: [][]int{{0, 100}}}, api.ErrFace},
		"a dimension of 7":   {cells.Complex{Facets: [][]int{{0, 1, 2, 3, 4, 5, 6, 7}}}, api.ErrBound},
		"no order":           {cells.Complex{Facets: [][]int{{1, 0}}}, api.ErrShape},
		"a part":             {cells.Complex{Facets: [][]int{{0, 1}, {1}}}, api.ErrShape},
	} {
		if l, err := Complex(c.c); len(l) > 0 || err != c.want {
			t.Error(name, l, err)
		}
		if g, err := Reduced(c.c); len(g) > 0 || err != c.want {
			t.Error(name, g, err)
		}
		if l, err := Relative(c.c, cells.Complex{Facets: [][]int{{}}}); len(l) > 0 || err != c.want {
			t.Error(name, l, err)
		}
		if l, err := Relative(good, c.c); len(l) > 0 || err != c.want {
			t.Error(name, l, err)
		}
	}
	twice := cells.Complex{Facets: [][]int{{1, 1}}}
	if _, err := Relative(cells.Complex{Facets: [][]int{{1, 0}}}, twice); err != api.ErrShape {
		t.Error("the first complex comes first", err)
	}
	if _, err := Relative(twice, cells.Complex{Facets: [][]int{{1, 0}}}); err != api.ErrFace {
		t.Error("the first complex comes first", err)
	}
	var f *api.Fault
	if _, err := Complex(twice); errors.As(err, &f) {
		t.Error("errors are bare", err)
	}
}

func TestImage(t *testing.T) {
	for _, c := range []struct {
		m    cubes.Image
		want string
	}{
		{nil, "[{0 []} {0 []} {0 []}]"}, {cubes.Image{""}, "[{0 []} {0 []} {0 []}]"}, {cubes.Image{"...", "..."}, "[{0 []} {0 []} {0 []}]"}, {cubes.Image{"#"}, "[{1 []} {0 []} {0 []}]"}, {cubes.Image{"###", "#.#", "###"}, "[{1 []} {1 []} {0 []}]"}, {cubes.Image{"#.#", ".#.", "#.#"}, "[{1 []} {0 []} {0 []}]"}, {cubes.Image{"#.#"}, "[{2 []} {0 []} {0 []}]"},
	} {
		l, err := Image(c.m)
		if err != nil || len(l) != 3 {
			t.Error(c.m, l, err)
		}
		if g, err := Of(l); fmt.Sprint(g) != c.want || err != nil {
			t.Error(c.m, g, err)
		}
	}
	for name, c := range map[string]struct {
		m    cubes.Image
		want error
	}{"too many rows": {make(cubes.Image, 25), api.ErrBound}, "too many columns": {cubes.Image{strings.Repeat("#", 25)}, api.ErrBound}, "unlike rows": {cubes.Image{"#", "##"}, api.ErrShape}, "another byte": {cubes.Image{"#x"}, api.ErrText}} {
		if l, err := Image(c.m); len(l) > 0 || err != c.want {
			t.Error(name, l, err)
		}
	}
}

// Pieces and holes are counted otherwise in package cubes; nothing is twisted in the plane.
func TestImagesByPiecesAndHoles(t *testing.T) {
	r := rand.New(rand.NewSource(3))
	great := 0
	for range 150 {
		rows, cols, full := r.Intn(api.MaxImage+1), r.Intn(api.MaxImage+1), r.Intn(100)
		m := make(cubes.Image, rows)
		for i := range m {
			row := make([]byte, cols)
			for k := range row {
				row[k] = ".#"[min(1, r.Intn(100)/(full+1))]
			}
			m[i] = string(row)
		}
		l, err := Image(m)
		if err != nil || len(l) != 3 {
			t.Fatal(m, err)
		}
		for dim := range 3 {
			if want, err := cubes.Boundary(m, dim); err != nil || !same(l[dim], want) {
				t.Fatal(m, dim)
			}
		}
		g, err := Of(l)
		if corners, edges, squares, _ := cubes.Counts(m); max(corners, edges, squares) > 300 {
			great++
			if n, err2 := Mod(l, 2); len(g) > 0 || err != api.ErrBound || len(n) > 0 || err2 != api.ErrBound {
				t.Fatal(m, g, err)
			}
			continue
		}
		pieces, _ := cubes.Pieces(m)
		holes, _ := cubes.Holes(m)
		want := []api.Group{{Free: pieces}, {Free: holes}, {}}
		if fmt.Sprint(g) != fmt.Sprint(want) || err != nil {
			t.Fatal(m, g, want, err)
		}
	}
	if great < 20 || great > 130 {
		t.Error("the trials are lopsided:", great)
	}
}

// plainFactors, by steps of rows and columns with numbers of any size.
func plainFactors(m smith.Matrix) []*big.Int {
	l := make([][]*big.Int, m.Rows)
	for i := range l {
		for _, x := range m.L[i*m.Cols : (i+1)*m.Cols] {
			l[i] = append(l[i], big.NewInt(int64(x)))
		}
	}
	var out []*big.Int
	for top := range min(m.Rows, m.Cols) {
		if !plainPivot(l, top) {
			break
		}
		out = append(out, new(big.Int).Abs(l[top][top]))
	}
	return out
}

// plainPivot brings an entry to the place (top, top) that divides all that is right of it and below, and is alone in its row and column; false: there are none but 0.
func plainPivot(l [][]*big.Int, top int) bool {
	for {
		row, col := -1, -1
		for i := top; i < len(l); i++ {
			for k := top; k < len(l[i]); k++ {
				if l[i][k].Sign() != 0 && (row < 0 || l[i][k].CmpAbs(l[row][col]) < 0) {
					row, col = i, k
				}
			}
		}
		if row < 0 {
			return false
		}
		l[top], l[row] = l[row], l[top]
		for i := range l {
			l[i][top], l[i][col] = l[i][col], l[i][top]
		}
		if plainStep(l, top) {
			return true
		}
	}
}

// plainStep takes multiples of the first row and column away; false: something less is left.
func plainStep(l [][]*big.Int, top int) bool {
	done := true
	pivot := l[top][top]
	for i := top + 1; i < len(l); i++ {
		q := new(big.Int).Quo(l[i][top], pivot)
		for k := top; k < len(l[i]); k++ {
			l[i][k] = new(big.Int).Sub(l[i][k], new(big.Int).Mul(q, l[top][k]))
		}
		done = done && l[i][top].Sign() == 0
	}
	for k := top + 1; k < len(l[top]); k++ {
		q := new(big.Int).Quo(l[top][k], pivot)
		for i := top; i < len(l); i++ {
			l[i][k] = new(big.Int).Sub(l[i][k], new(big.Int).Mul(q, l[i][top]))
		}
		done = done && l[top][k].Sign() == 0
	}
	for i := top + 1; done && i < len(l); i++ {
		for k := top + 1; k < len(l[i]); k++ {
			if new(big.Int).Rem(l[i][k], pivot).Sign() != 0 {
				for k := top; k < len(l[i]); k++ {
					l[top][k] = new(big.Int).Add(l[top][k], l[i][k])
				}
				return false
			}
		}
	}
	return done
}

// plainGroups, told as P51 has it.
func plainGroups(l Chain) string {
	var out []string
	ranks := make([]int, len(l)+1)
	torsion := make([][]string, len(l)+1)
	for i, m := range l {
		for _, x := range plainFactors(m) {
			ranks[i]++
			if x.Cmp(big.NewInt(1)) > 0 {
				torsion[i] = append(torsion[i], x.String())
			}
		}
	}
	for i, m := range l {
		out = append(out, fmt.Sprintf("{%d %v}", m.Cols-ranks[i]-ranks[i+1], torsion[i+1]))
	}
	return fmt.Sprint(out)
}

func TestComplexesAgainstPlainSteps(t *testing.T) {
	r := rand.New(rand.NewSource(4))
	for range 150 {
		c := random(r, 9, 20, 4)
		l, err := Complex(c)
		if err != nil {
			t.Fatal(c, err)
		}
		if g, err := Of(l); fmt.Sprint(g) != plainGroups(l) || err != nil {
			t.Fatal(c, g, plainGroups(l), err)
		}
	}
}

func gcd(a, b int) int {
	for b != 0 {
		a, b = b, a%b
	}
	return a
}

// normal: orders above 1, each dividing the next one.
func normal(l []int) []int {
	l = slices.Clone(l)
	for i := range l {
		for k := i + 1; k < len(l); k++ {
			g := gcd(l[i], l[k])
			l[i], l[k] = g, l[i]/g*l[k]
		}
	}
	return slices.DeleteFunc(l, func(x int) bool { return x == 1 })
}

// knownChain: in a basis that is mixed step by step, so that the groups stay as they were put in.
func knownChain(r *rand.Rand, mixes int) (Chain, []api.Group) {
	n := r.Intn(api.MaxDim + 3)
	groups := make([]api.Group, n)
	l := make(Chain, n)
	pairs, rows := 0, 0
	for i := range l {
		free, next := r.Intn(3), r.Intn(3)
		if i == n-1 {
			next = 0
		}
		groups[i].Free = free
		l[i] = zeros(rows, pairs+free+next) // sources of the pairs with the dimension ahead, free ones, aims of those with the next one
		var orders []int
		for k := range pairs {
			f := []int{1, 1, 2, 3, 4, 6, 12, 35}[r.Intn(8)]
			orders = append(orders, f)
			l[i].L[(rows-1-k)*l[i].Cols+k] = f * (1 - 2*r.Intn(2))
		}
		if i > 0 {
			groups[i-1].Torsion = normal(orders)
		}
		pairs, rows = next, l[i].Cols
	}
	for range mixes {
		mix(r, l)
	}
	return l, groups
}

// mix: a vector of a basis comes to be its sum with another one: columns of the one matrix, rows of the next one.
func mix(r *rand.Rand, l Chain) {
	if len(l) == 0 {
		return
	}
	i := r.Intn(len(l))
	m := l[i]
	if m.Cols < 2 {
		return
	}
	two := r.Perm(m.Cols)
	a, b, sign := two[0], two[1], 1-2*r.Intn(2)
	small := func(x int) bool { return x <= api.MaxEntry && x >= -api.MaxEntry }
	for row := range m.Rows {
		if !small(m.L[row*m.Cols+b] + sign*m.L[row*m.Cols+a]) {
			return
		}
	}
	if i+1 < len(l) {
		next := l[i+1]
		for k := range next.Cols {
			if !small(next.L[a*next.Cols+k] - sign*next.L[b*next.Cols+k]) {
				return
			}
		}
		for k := range next.Cols {
			next.L[a*next.Cols+k] -= sign * next.L[b*next.Cols+k]
		}
	}
	for row := range m.Rows {
		m.L[row*m.Cols+b] += sign * m.L[row*m.Cols+a]
	}
}

func TestKnownChains(t *testing.T) {
	r := rand.New(rand.NewSource(5))
	twisted := 0
	for i := range 1500 {
		l, want := knownChain(r, []int{0, 10, 100, 1000}[i%4])
		if err := Valid(l); err != nil {
			t.Fatal(l, err)
		}
		g, err := Of(l)
		if fmt.Sprint(g) != fmt.Sprint(want) || err != nil {
			t.Fatal(l, g, want, err)
		}
		for _, x := range g {
			twisted += len(x.Torsion)
		}
		askFields(t, l, g)
	}
	if twisted < 1000 {
		t.Error("the trials are lopsided:", twisted)
	}
}

// askFields: EULER and POINCARE, and UNIVERSAL COEFFICIENTS.
func askFields(t *testing.T, l Chain, g []api.Group) {
	t.Helper()
	euler := 0
	for i, m := range l {
		euler += m.Cols * (1 - 2*(i%2))
	}
	for _, p := range []int{0, 2, 3, 5, 7, 9973} {
		n, err := Mod(l, p)
		if err != nil || len(n) != len(g) {
			t.Fatal(l, p, n, err)
		}
		sum := 0
		ahead := 0
		for i := range g {
			want := g[i].Free + ahead
			ahead = 0
			for _, order := range g[i].Torsion {
				if p > 0 && order%p == 0 {
					want++
					ahead++
				}
			}
			if n[i] != want {
				t.Fatal(l, p, n, g)
			}
			sum += n[i] * (1 - 2*(i%2))
		}
		if sum != euler {
			t.Fatal(l, p, n, euler)
		}
	}
}

func TestFieldsOfComplexes(t *testing.T) {
	r := rand.New(rand.NewSource(6))
	var all []cells.Complex
	for _, text := range shapes() {
		all = append(all, read(t, text))
	}
	for range 200 {
		all = append(all, random(r, 10, 20, 4))
	}
	for _, c := range all {
		l, err := Complex(c)
		if err != nil {
			t.Fatal(c, err)
		}
		g := groupsOf(t, c)
		askFields(t, l, g)
		sum := 0
		for i, x := range g {
			sum += x.Free * (1 - 2*(i%2))
		}
		if euler, _ := cells.Euler(c); sum != euler {
			t.Fatal(c, g, euler)
		}
	}
}

// both groups' product: tensor, and what they have in common one dimension higher.
func timesGroups(a, b []api.Group) []api.Group {
	out := make([]api.Group, len(a)+len(b))
	for i, x := range a {
		for k, y := range b {
			out[i+k].Free += x.Free * y.Free
			for _, p := range x.Torsion {
				out[i+k].Torsion = append(out[i+k].Torsion, slices.Repeat([]int{p}, y.Free)...)
				for _, q := range y.Torsion {
					out[i+k].Torsion = append(out[i+k].Torsion, gcd(p, q))
					out[i+k+1].Torsion = append(out[i+k+1].Torsion, gcd(p, q))
				}
			}
			for _, q := range y.Torsion {
				out[i+k].Torsion = append(out[i+k].Torsion, slices.Repeat([]int{q}, x.Free)...)
			}
		}
	}
	for i := range out {
		out[i].Torsion = normal(out[i].Torsion)
	}
	return out
}

func TestJoinsAndProducts(t *testing.T) {
	r := rand.New(rand.NewSource(7))
	var all []cells.Complex
	for _, text := range shapes() {
		all = append(all, read(t, text))
	}
	for range 10 {
		if c := random(r, 5, 5, 3); len(c.Facets) > 0 {
			all = append(all, c)
		}
	}
	joins, products := 0, 0
	for _, a := range all {
		for _, b := range all {
			if c, err := cells.Join(a, b); err == nil {
				if got, err := Reduced(c); err != api.ErrBound {
					joins++
					x, _ := Reduced(a)
					y, _ := Reduced(b)
					want := append([]api.Group{{}}, timesGroups(x, y)...)
					if trimmed(got) != trimmed(want) || err != nil {
						t.Fatal(a, b, got, want, err)
					}
				}
			}
			if c, err := cells.Product(a, b); err == nil {
				l, _ := Complex(c)
				if got, err := Of(l); err != api.ErrBound {
					products++
					if want := timesGroups(groupsOf(t, a), groupsOf(t, b)); trimmed(got) != trimmed(want) || err != nil {
						t.Fatal(a, b, got, want, err)
					}
				}
			}
		}
	}
	if joins < 200 || products < 200 {
		t.Error("the trials are few:", joins, products)
	}
}

func TestUnionsAndMeets(t *testing.T) {
	r := rand.New(rand.NewSource(8))
	sum := func(c cells.Complex) int {
		out := 0
		for i, g := range groupsOf(t, c) {
			out += g.Free * (1 - 2*(i%2))
		}
		return out
	}
	for range 300 {
		a, b := random(r, 8, 6, 4), random(r, 8, 6, 4)
		u, err := cells.Union(a, b)
		if err != nil {
			continue
		}
		m, err := cells.Meet(a, b)
		if err != nil || sum(u)+sum(m) != sum(a)+sum(b) {
			t.Fatal(a, b, err)
		}
	}
}

// subdivided: each face is a vertex, each rising row of faces a face.
func subdivided(c cells.Complex) (cells.Complex, bool) {
	at := map[string]int{}
	var rows [][]int
	for _, faces := range listed(c) {
		for _, f := range faces {
			at[fmt.Sprint(f)] = len(at)
		}
	}
	if len(at) > api.MaxVertex+1 {
		return cells.Complex{}, false
	}
	var walk func(face, row []int)
	walk = func(face, row []int) {
		row = append(slices.Clone(row), at[fmt.Sprint(face)])
		if len(face) == 1 {
			rows = append(rows, row)
		}
		for i := range face {
			if len(face) > 1 {
				walk(slices.Delete(slices.Clone(face), i, i+1), row)
			}
		}
	}
	for _, f := range c.Facets {
		walk(f, nil)
	}
	out, err := cells.Make(rows)
	return out, err == nil
}

func TestSubdivisionsKeepTheGroups(t *testing.T) {
	r := rand.New(rand.NewSource(9))
	var all []cells.Complex
	for _, text := range shapes() {
		all = append(all, read(t, text))
	}
	for range 60 {
		all = append(all, random(r, 6, 6, 3))
	}
	done := 0
	for _, c := range all {
		s, ok := subdivided(c)
		if !ok {
			continue
		}
		l, _ := Complex(s)
		g, err := Of(l)
		if err == api.ErrBound {
			continue
		}
		done++
		if want := groupsOf(t, c); fmt.Sprint(g) != fmt.Sprint(want) || err != nil {
			t.Fatal(c, g, want, err)
		}
	}
	if done < 60 {
		t.Error("the trials are few:", done)
	}
}

func TestGradientsAndCollapsesKeepTheGroups(t *testing.T) {
	r := rand.New(rand.NewSource(10))
	var all []cells.Complex
	for _, text := range shapes() {
		all = append(all, read(t, text))
	}
	for range 100 {
		all = append(all, random(r, 9, 12, 4))
	}
	for _, c := range all {
		want := groupsOf(t, c)
		g, err := morse.Find(c)
		if err != nil {
			t.Fatal(c, err)
		}
		l, err := boundaries(len(want), func(dim int) (smith.Matrix, error) { return morse.Boundary(c, g, dim) })
		if err != nil {
			t.Fatal(c, err)
		}
		if got, err := Of(l); fmt.Sprint(got) != fmt.Sprint(want) || err != nil {
			t.Fatal(c, got, want, err)
		}
		for {
			free, err := morse.Free(c)
			if err != nil {
				t.Fatal(c, err)
			}
			if len(free) == 0 {
				break
			}
			if c, err = morse.Collapse(c, [][2]int{free[r.Intn(len(free))]}); err != nil {
				t.Fatal(c, err)
			}
			if r.Intn(4) == 0 && trimmed(groupsOf(t, c)) != trimmed(want) {
				t.Fatal(c, want)
			}
		}
		if got := groupsOf(t, c); trimmed(got) != trimmed(want) {
			t.Fatal(c, got, want)
		}
	}
}

// tower over the circle 0 1 2: so many circles one behind the other, each of which is glued twice around the next one by nine triangles.
func tower(doubles int) [][]int {
	out := [][]int{}
	a, from := [3]int{0, 1, 2}, 3
	for range doubles {
		b := [3]int{from, from + 1, from + 2}
		for i := range 3 {
			out = append(out, []int{a[i], b[2*i%3], b[(2*i+1)%3]}, []int{a[i], b[(2*i+1)%3], b[(2*i+2)%3]}, []int{a[i], a[(i+1)%3], b[(2*i+2)%3]})
		}
		a, from = b, from+3
	}
	return out
}

func TestTowers(t *testing.T) {
	for doubles := 1; doubles <= 24; doubles++ {
		c, err := cells.Make(append(tower(doubles), []int{0, 1, 2}))
		if err != nil {
			t.Fatal(doubles, err)
		}
		got, err := Reduced(c)
		want := []api.Group{{}, {Torsion: []int{1 << doubles}}, {}}
		if fmt.Sprint(got) != fmt.Sprint(want) || err != nil {
			t.Error(doubles, got, err)
		}
	}
}

func TestTheBoundOfSides(t *testing.T) {
	var l [][]int
	for a := range 100 {
		for b := range a {
			l = append(l, []int{b, a})
		}
	}
	for edges, want := range map[int]error{300: nil, 301: api.ErrBound} {
		c, err := cells.Make(l[:edges])
		if err != nil {
			t.Fatal(err)
		}
		g, err := Reduced(c)
		if err != want || want != nil && len(g) > 0 || want == nil && fmt.Sprint(g) != "[{0 []} {276 []}]" {
			t.Error(edges, g, err)
		}
		chain, err := Complex(c)
		if err != nil || len(chain) != 2 || chain[1].Cols != edges {
			t.Error(edges, len(chain), err)
		}
		if err := Valid(chain); err != want {
			t.Error(edges, err)
		}
		half, err := cells.Make(l[:150]) // what is left is not too large any more
		if err != nil {
			t.Fatal(err)
		}
		rel, err := Relative(c, half)
		if err != nil {
			t.Error(edges, err)
		}
		if g, err := Of(rel); err != nil || g[1].Free-g[0].Free != edges-150-rel[0].Cols {
			t.Error(edges, g, err)
		}
	}
}

func TestGreatComplexes(t *testing.T) {
	r := rand.New(rand.NewSource(11))
	for range 20 {
		var l [][]int
		for {
			more := append(slices.Clone(l), r.Perm(16)[:3+r.Intn(3)])
			c, err := cells.Make(more)
			if err != nil {
				break
			}
			if v, _ := cells.Vector(c); slices.Max(v) > 300 {
				break
			}
			l = more
		}
		c, _ := cells.Make(l)
		chain, err := Complex(c)
		if err != nil {
			t.Fatal(err)
		}
		g, err := Of(chain)
		if err != nil {
			t.Fatal(c, err)
		}
		askFields(t, chain, g)
	}
}

func TestGreatChains(t *testing.T) {
	r := rand.New(rand.NewSource(12))
	m := zeros(100, 100)
	for i := range m.L {
		m.L[i] = r.Intn(2*api.MaxEntry+1) - api.MaxEntry
	}
	l := Chain{mat(0, 100), m, zeros(100, 300), zeros(300, 300)}
	if g, err := Of(l); len(g) > 0 || err != api.ErrBound {
		t.Error(g, err)
	}
	if n, err := Mod(l, 0); fmt.Sprint(n) != "[0 0 300 300]" || err != nil {
		t.Error(n, err)
	}
	for i := range 100 {
		for k := range 100 {
			m.L[i*100+k] = 0
		}
		m.L[i*100+i] = 2 + i%2*4
	}
	g, err := Of(l)
	if err != nil || len(g) != 4 || g[0].Free != 0 || len(g[0].Torsion) != 100 || g[0].Torsion[49] != 2 || g[0].Torsion[50] != 6 || g[2].Free != 300 {
		t.Error(g, err)
	}
}

func TestNothingIsSharedOrChanged(t *testing.T) {
	memory := []int{2, 4, 6, 8, 77, math.MaxInt}
	whole := Chain{mat(0, 2), {Rows: 2, Cols: 2, L: memory[:4]}, mat(-1, -1)}
	l := whole[:2]
	if err := Valid(l); err != nil {
		t.Error("what lies behind is not read:", err)
	}
	one, _ := Of(l)
	one[0].Torsion[0], one[0].Free = 9, 9
	two, _ := Of(l)
	n, _ := Mod(l, 2)
	n[0] = 9
	again, _ := Mod(l, 2)
	if fmt.Sprint(two) != "[{0 [2 4]} {0 []}]" || fmt.Sprint(again) != "[2 2]" || !slices.Equal(memory, []int{2, 4, 6, 8, 77, math.MaxInt}) {
		t.Error(two, again, memory)
	}
	c, sub := read(t, plane), read(t, "0 1; 2")
	for name, call := range map[string]func() (Chain, error){
		"Complex":  func() (Chain, error) { return Complex(c) },
		"Relative": func() (Chain, error) { return Relative(c, sub) },
		"Image":    func() (Chain, error) { return Image(cubes.Image{"##", "#."}) },
	} {
		first, err := call()
		text := fmt.Sprint(first)
		for i := range first {
			for k := range first[i].L {
				first[i].L[k] = 99
			}
		}
		if second, _ := call(); fmt.Sprint(second) != text || err != nil {
			t.Error(name, second, err)
		}
	}
	if text, err := cells.Text(c); text != "0 1 2; 0 1 5; 0 2 3; 0 3 4; 0 4 5; 1 2 4; 1 3 4; 1 3 5; 2 3 5; 2 4 5" || err != nil {
		t.Error(text, err)
	}
}
