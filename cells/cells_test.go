package cells

import (
	"errors"
	"fmt"
	"math"
	"math/rand"
	"reflect"
	"regexp"
	"slices"
	"strings"
	"testing"

	"handlebody/api"
	"handlebody/smith"
)

func of(l ...[]int) Complex { return Complex{Facets: l} }

func read(t *testing.T, text string) Complex {
	t.Helper()
	c, err := Read(text)
	if err != nil {
		t.Fatal(text, err)
	}
	return c
}

func must(t *testing.T) func(c Complex, err error) string {
	return func(c Complex, err error) string {
		t.Helper()
		if err != nil {
			t.Error(err)
		}
		text, err := Text(c)
		if err != nil {
			t.Error(c, err)
		}
		return text
	}
}

// graph of the vertices 0 to 99 and so many edges: it has 100 faces more than edges.
func graph(edges int) [][]int {
	var out [][]int
	for v := range 100 {
		out = append(out, []int{v})
	}
	for gap := 1; len(out) < 100+edges; gap++ {
		for v := 0; v+gap < 100 && len(out) < 100+edges; v++ {
			out = append(out, []int{v + gap, v})
		}
	}
	return out
}

func count(n int) []int {
	out := make([]int, n)
	for i := range out {
		out[i] = i
	}
	return out
}

// wrongSets and what Make tells of them.
func wrongSets() map[string]struct {
	l    [][]int
	want error
} {
	type row = struct {
		l    [][]int
		want error
	}
	return map[string]row{
		"a nil set":                      {[][]int{nil}, api.ErrFace},
		"an empty set behind others":     {[][]int{{0, 1}, {}}, api.ErrFace},
		"a vertex twice":                 {[][]int{{1, 1}}, api.ErrFace},
		"a vertex twice, others between": {[][]int{{1, 2, 3, 1}}, api.ErrFace},
		"a vertex below 0":               {[][]int{{-1}}, api.ErrFace},
		"a vertex above the greatest":    {[][]int{{0, api.MaxVertex + 1}}, api.ErrFace},
		"a vertex that is a byte again":  {[][]int{{0, 256 + 1}}, api.ErrFace},
		"the least number":               {[][]int{{math.MinInt}}, api.ErrFace},
		"the greatest number":            {[][]int{{math.MaxInt}}, api.ErrFace},
		"more vertices than there are":   {[][]int{count(api.MaxVertex + 2)}, api.ErrFace},
		"a dimension too high":           {[][]int{count(api.MaxDim + 2)}, api.ErrBound},
		"all vertices in one":            {[][]int{count(api.MaxVertex + 1)}, api.ErrBound},
		"a face too many":                {graph(api.MaxFaces - 99), api.ErrBound},
		"a face and a bound":             {[][]int{count(api.MaxDim + 2), {3, 3}}, api.ErrFace},
		"many faces and a wrong one":     {append(graph(api.MaxFaces-99), []int{100}), api.ErrFace},
	}
}

func TestMake(t *testing.T) {
	for _, x := range []struct {
		l    [][]int
		want string
	}{
		{nil, "[]"},
		{[][]int{}, "[]"},
		{[][]int{{0}}, "[[0]]"},
		{[][]int{{99}, {0}}, "[[0] [99]]"},
		{[][]int{{2, 1, 0}, {1, 2}, {3}, {3, 1}, {2, 1, 0}}, "[[0 1 2] [1 3]]"},
		{[][]int{{1, 2}, {2, 1, 0}}, "[[0 1 2]]"},
		{[][]int{{10, 2}, {2, 9, 3}, {2, 1}, {1}, {20}}, "[[1 2] [2 3 9] [2 10] [20]]"},
		{[][]int{{0, 1, 5}, {0, 1, 3, 4}, {0, 2}}, "[[0 1 3 4] [0 1 5] [0 2]]"},
		{[][]int{{6, 5, 4, 3, 2, 1, 0}}, "[[0 1 2 3 4 5 6]]"},
	} {
		c, err := Make(x.l)
		if got := fmt.Sprint(c.Facets); got != x.want || err != nil {
			t.Error(x.l, got, err)
		}
	}
	for name, x := range wrongSets() {
		if c, err := Make(x.l); err != x.want || len(c.Facets) > 0 {
			t.Error(name, c, err)
		}
	}
}

func TestMakeAtTheBounds(t *testing.T) {
	c, err := Make(graph(api.MaxFaces - 100))
	v, _ := Vector(c)
	if err != nil || !slices.Equal(v, []int{100, 500}) {
		t.Error(v, err)
	}
	c, err = Make([][]int{count(api.MaxDim + 1), count(api.MaxDim)})
	v, _ = Vector(c)
	if err != nil || !slices.Equal(v, []int{7, 21, 35, 35, 21, 7, 1}) {
		t.Error(v, err)
	}
	same := make([][]int, 100000)
	for i := range same {
		same[i] = []int{i % 2, 2, 3}
	}
	if c, err = Make(same); fmt.Sprint(c.Facets) != "[[0 2 3] [1 2 3]]" || err != nil {
		t.Error(c, err)
	}
}

// wrongComplexes and what Valid tells of them.
func wrongComplexes() map[string]struct {
	c    Complex
	want error
} {
	type row = struct {
		c    Complex
		want error
	}
	out := map[string]row{
		"a facet that does not rise":  {of([]int{1, 0}), api.ErrShape},
		"a part as a facet":           {of([]int{0, 1}, []int{1}), api.ErrShape},
		"a part ahead of its facet":   {of([]int{0}, []int{0, 1}), api.ErrShape},
		"facets out of order":         {of([]int{1}, []int{0}), api.ErrShape},
		"facets by length":            {of([]int{9}, []int{1, 2}), api.ErrShape},
		"a facet twice":               {of([]int{0, 1}, []int{0, 1}), api.ErrShape},
		"out of order, and no face":   {of([]int{1}, []int{0}, []int{}), api.ErrFace},
		"out of order, and too great": {of([]int{1}, []int{0}, count(8)), api.ErrBound},
	}
	for name, x := range wrongSets() {
		out[name] = row{of(x.l...), x.want}
	}
	return out
}

func TestValid(t *testing.T) {
	for name, x := range wrongComplexes() {
		if err := Valid(x.c); err != x.want {
			t.Error(name, err)
		}
	}
	for _, c := range []Complex{{}, of([][]int{}...), of([]int{0}), of([]int{0}, []int{99}), of([]int{0, 1, 3}, []int{0, 2}, []int{1, 2}), of(count(7))} {
		if err := Valid(c); err != nil {
			t.Error(c, err)
		}
	}
}

// calls by their names, of a first and a second complex, each with all its results.
func calls() map[string]func(a, b Complex) []any {
	return map[string]func(a, b Complex) []any{
		"Faces":    func(a, b Complex) []any { l, err := Faces(a, 0); return []any{len(l), err} },
		"Vector":   func(a, b Complex) []any { l, err := Vector(a); return []any{len(l), err} },
		"Euler":    func(a, b Complex) []any { n, err := Euler(a); return []any{n, err} },
		"Has":      func(a, b Complex) []any { ok, err := Has(a, []int{0}); return []any{ok, err} },
		"Star":     func(a, b Complex) []any { c, err := Star(a, []int{0, 0}); return []any{len(c.Facets), err} },
		"Link":     func(a, b Complex) []any { c, err := Link(a, nil); return []any{len(c.Facets), err} },
		"Skeleton": func(a, b Complex) []any { c, err := Skeleton(a, 1); return []any{len(c.Facets), err} },
		"Cone":     func(a, b Complex) []any { c, err := Cone(a); return []any{len(c.Facets), err} },
		"Suspend":  func(a, b Complex) []any { c, err := Suspend(a); return []any{len(c.Facets), err} },
		"Join":     func(a, b Complex) []any { c, err := Join(a, b); return []any{len(c.Facets), err} },
		"Union":    func(a, b Complex) []any { c, err := Union(a, b); return []any{len(c.Facets), err} },
		"Meet":     func(a, b Complex) []any { c, err := Meet(a, b); return []any{len(c.Facets), err} },
		"Product":  func(a, b Complex) []any { c, err := Product(a, b); return []any{len(c.Facets), err} },
		"Boundary": func(a, b Complex) []any { m, err := Boundary(a, -1); return []any{m.Rows, m.Cols, len(m.L), err} },
		"Text":     func(a, b Complex) []any { s, err := Text(a); return []any{s, err} },
	}
}

func TestWrongComplexesEverywhere(t *testing.T) {
	none := []any{0, "", false}
	ask := func(name string, got []any, want error) {
		for _, x := range got[:len(got)-1] {
			if !slices.Contains(none, x) {
				t.Error(name, "answers", x, "beside an error")
			}
		}
		if got[len(got)-1] != error(want) {
			t.Error(name, got, want)
		}
	}
	for name, call := range calls() {
		for wrong, x := range wrongComplexes() {
			ask(name+" "+wrong, call(x.c, of([]int{1}, []int{0})), x.want)
			if name == "Join" || name == "Union" || name == "Meet" || name == "Product" {
				ask(name+" second "+wrong, call(of([]int{0}), x.c), x.want)
			}
		}
	}
}

func TestFaces(t *testing.T) {
	c := read(t, "0 1 2; 2 3; 7")
	for dim, want := range map[int]string{0: "[[0] [1] [2] [3] [7]]", 1: "[[0 1] [0 2] [1 2] [2 3]]", 2: "[[0 1 2]]", 3: "[]", -1: "[]", -2: "[]", math.MaxInt: "[]", math.MinInt: "[]"} {
		l, err := Faces(c, dim)
		if got := fmt.Sprint(l); got != want || err != nil {
			t.Error(dim, got, err)
		}
	}
}

func TestVectorAndEuler(t *testing.T) {
	for text, want := range map[string]string{
		"":                           "[] 0",
		"5":                          "[1] 1",
		"0 1 2; 2 3; 7":              "[5 4 1] 2",
		"0 1; 1 2; 0 2":              "[3 3] 0",
		"0 1 2; 0 1 3; 0 2 3; 1 2 3": "[4 6 4] 2",
		"0 1 2 3":                    "[4 6 4 1] 1",
		"0 1 2 3; 90 91 92; 4":       "[8 9 5 1] 3",
	} {
		c := read(t, text)
		v, err := Vector(c)
		n, wrong := Euler(c)
		if got := fmt.Sprint(v, n); got != want || err != nil || wrong != nil {
			t.Error(text, got, err, wrong)
		}
	}
}

func TestHas(t *testing.T) {
	c := read(t, "0 1 2; 2 3; 7")
	for _, x := range []struct {
		f    []int
		want bool
	}{
		{[]int{0}, true}, {[]int{7}, true}, {[]int{1, 2}, true}, {[]int{0, 1, 2}, true}, {[]int{2, 3}, true},
		{nil, false}, {[]int{}, false}, {[]int{2, 1}, false}, {[]int{0, 3}, false}, {[]int{7, 7}, false}, {[]int{4}, false},
		{[]int{-1}, false}, {[]int{256}, false}, {[]int{263}, false}, {[]int{0, 257}, false}, {count(101), false}, {count(8), false}, {[]int{math.MinInt}, false},
	} {
		if ok, err := Has(c, x.f); ok != x.want || err != nil {
			t.Error(x, ok, err)
		}
	}
}

func TestStarAndLink(t *testing.T) {
	for _, x := range []struct {
		text       string
		face       []int
		star, link string
	}{
		{"0 1 2; 1 2 3; 3 4", []int{1, 2}, "0 1 2; 1 2 3", "0; 3"},
		{"0 1 2; 1 2 3; 3 4", []int{3}, "1 2 3; 3 4", "1 2; 4"},
		{"0 1 2; 1 2 3; 3 4", []int{3, 4}, "3 4", ""},
		{"0 1 2; 1 2 3; 3 4", []int{0}, "0 1 2", "1 2"},
		{"5", []int{5}, "5", ""},
		{"0 5 6; 1 5; 2 3 5", []int{5}, "0 5 6; 1 5; 2 3 5", "0 6; 1; 2 3"},
		{"0 9; 1 2 9; 3 9", []int{9}, "0 9; 1 2 9; 3 9", "0; 1 2; 3"},
		{"0 1 2 3; 0 1 4", []int{0}, "0 1 2 3; 0 1 4", "1 2 3; 1 4"},
		{"0 1 9; 2 9 10; 5 9", []int{9}, "0 1 9; 2 9 10; 5 9", "0 1; 2 10; 5"},
	} {
		c := read(t, x.text)
		star, link := must(t)(Star(c, x.face)), must(t)(Link(c, x.face))
		if star != x.star || link != x.link {
			t.Error(x, star, link)
		}
	}
	c := read(t, "0 1 2; 1 2 3; 3 4")
	for _, f := range [][]int{nil, {}, {0, 3}, {2, 1}, {5}, {-1}, {256}, {1, 1}, {100}, count(101)} {
		if s, err := Star(c, f); err != api.ErrFace || len(s.Facets) > 0 {
			t.Error(f, s, err)
		}
		if s, err := Link(c, f); err != api.ErrFace || len(s.Facets) > 0 {
			t.Error(f, s, err)
		}
	}
	if _, err := Star(Complex{}, []int{0}); err != api.ErrFace {
		t.Error(err)
	}
}

func TestSkeleton(t *testing.T) {
	c := read(t, "0 1 2; 1 2 3; 3 4; 8")
	for dim, want := range map[int]string{math.MinInt: "", -1: "", 0: "0; 1; 2; 3; 4; 8", 1: "0 1; 0 2; 1 2; 1 3; 2 3; 3 4; 8", 2: "0 1 2; 1 2 3; 3 4; 8", 3: "0 1 2; 1 2 3; 3 4; 8", math.MaxInt: "0 1 2; 1 2 3; 3 4; 8"} {
		if got := must(t)(Skeleton(c, dim)); got != want {
			t.Error(dim, got)
		}
	}
}

func TestJoin(t *testing.T) {
	for _, x := range []struct{ a, b, want string }{
		{"", "", ""}, {"", "3; 4 5", "3; 4 5"}, {"3; 4 5", "", "3; 4 5"}, {"", "99", "99"}, {"99", "", "99"},
		{"0", "0", "0 1"}, {"5", "0", "5 6"}, {"0", "5", "0 6"}, {"98", "0", "98 99"}, {"0", "98", "0 99"},
		{"0; 2", "0; 1", "0 3; 0 4; 2 3; 2 4"},
		{"0 1; 2", "1 3; 0", "0 1 3; 0 1 4 6; 2 3; 2 4 6"},
		{"0 1 2", "0 1 2 3", "0 1 2 3 4 5 6"},
	} {
		if got := must(t)(Join(read(t, x.a), read(t, x.b))); got != x.want {
			t.Error(x, got)
		}
	}
	for _, x := range []struct {
		a, b string
		want error
	}{
		{"99", "0", api.ErrFace}, {"0", "99", api.ErrFace}, {"50", "49", api.ErrFace},
		{"0 1 2 3", "0 1 2 3", api.ErrBound}, {"0 1 2 3", "0 1 2 97", api.ErrFace},
	} {
		if c, err := Join(read(t, x.a), read(t, x.b)); err != x.want || len(c.Facets) > 0 {
			t.Error(x, c, err)
		}
	}
}

// points so many, of no greater face.
func points(n int) Complex {
	var c Complex
	for v := range n {
		c.Facets = append(c.Facets, []int{v})
	}
	return c
}

func TestJoinAtTheBounds(t *testing.T) {
	for _, x := range []struct {
		a, b int
		want error
	}{
		{1, 99, nil}, {10, 50, nil}, {9, 59, nil}, // 199, 560, 599 faces: one less than the product of one more than each
		{10, 54, api.ErrBound}, {9, 60, api.ErrBound}, {50, 50, api.ErrBound},
		{1, 100, api.ErrFace}, {50, 51, api.ErrFace}, {100, 100, api.ErrFace},
	} {
		c, err := Join(points(x.a), points(x.b))
		if err != x.want || err == nil && len(c.Facets) != x.a*x.b || err != nil && len(c.Facets) > 0 {
			t.Error(x, len(c.Facets), err)
		}
	}
	var edges [][]int
	for v := range 50 {
		for u := range min(v, 7) {
			edges = append(edges, []int{u, v})
		}
	}
	c, err := Make(edges)
	if err != nil {
		t.Fatal(err)
	}
	if _, err := Join(c, c); err != api.ErrBound {
		t.Error(err)
	}
}

func TestConeAndSuspend(t *testing.T) {
	for text, want := range map[string][2]string{
		"":              {"0", "0; 1"},
		"4":             {"4 5", "4 5; 4 6"},
		"0; 1":          {"0 2; 1 2", "0 2; 0 3; 1 2; 1 3"},
		"0 1; 1 2; 0 2": {"0 1 3; 0 2 3; 1 2 3", "0 1 3; 0 1 4; 0 2 3; 0 2 4; 1 2 3; 1 2 4"},
		"97":            {"97 98", "97 98; 97 99"},
	} {
		c := read(t, text)
		if cone, twice := must(t)(Cone(c)), must(t)(Suspend(c)); cone != want[0] || twice != want[1] {
			t.Error(text, cone, twice)
		}
	}
	if got := must(t)(Cone(of([]int{98}))); got != "98 99" {
		t.Error(got)
	}
	for _, x := range []struct {
		text          string
		cone, suspend error
	}{{"98", nil, api.ErrFace}, {"99", api.ErrFace, api.ErrFace}, {"0 1 2 3 4 5 6", api.ErrBound, api.ErrBound}} {
		c := read(t, x.text)
		_, cone := Cone(c)
		if _, suspend := Suspend(c); cone != x.cone || suspend != x.suspend {
			t.Error(x, cone, suspend)
		}
	}
}

func TestUnionAndMeet(t *testing.T) {
	for _, x := range []struct{ a, b, union, meet string }{
		{"", "", "", ""}, {"", "0 1", "0 1", ""}, {"0 1", "", "0 1", ""},
		{"0 1 2", "1 2 3; 5", "0 1 2; 1 2 3; 5", "1 2"},
		{"0 1 2", "0 1; 1 2; 0 2", "0 1 2", "0 1; 0 2; 1 2"},
		{"7", "8", "7; 8", ""},
		{"0 1 2; 3", "0 1; 2 3", "0 1 2; 2 3", "0 1; 2; 3"},
	} {
		a, b := read(t, x.a), read(t, x.b)
		if union, meet := must(t)(Union(a, b)), must(t)(Meet(a, b)); union != x.union || meet != x.meet {
			t.Error(x, union, meet)
		}
		if union, meet := must(t)(Union(b, a)), must(t)(Meet(b, a)); union != x.union || meet != x.meet {
			t.Error(x, union, meet)
		}
	}
	great, _ := Make(graph(500))
	if _, err := Union(great, of([]int{0, 1})); err != nil {
		t.Error(err)
	}
	if c, err := Union(great, of([]int{0, 99})); err != api.ErrBound || len(c.Facets) > 0 {
		t.Error(err)
	}
	if got := must(t)(Meet(great, of([]int{0, 1, 99}))); got != "0 1; 99" {
		t.Error(got)
	}
}

func TestProduct(t *testing.T) {
	for _, x := range []struct{ a, b, want string }{
		{"", "", ""}, {"", "0 1", ""}, {"0 1", "", ""},
		{"4", "7", "0"}, {"4", "7 9; 8", "0 2; 1"}, {"7 9; 8", "4", "0 2; 1"},
		{"0 1", "5 7", "0 1 3; 0 2 3"},
		{"3; 9", "5 7", "0 1; 2 3"},
		{"5 7", "3; 9", "0 2; 1 3"},
		{"0 1 2", "0 1", "0 1 3 5; 0 2 3 5; 0 2 4 5"},
		{"90 91; 91 92", "99", "0 1; 1 2"},
	} {
		if got := must(t)(Product(read(t, x.a), read(t, x.b))); got != x.want {
			t.Error(x, got)
		}
	}
	for _, x := range []struct {
		a, b Complex
		want error
	}{
		{points(10), points(10), nil}, {points(4), points(25), nil}, {points(1), points(100), nil},
		{points(10), points(11), api.ErrFace}, {points(100), points(2), api.ErrFace}, {points(100), points(100), api.ErrFace},
		{of(count(5)), of(count(4)), api.ErrBound}, {of(count(7)), of(count(7)), api.ErrBound}, {of(count(7)), points(2), nil},
		{of(count(7)), points(5), api.ErrBound}, {of(count(4)), of(count(4)), api.ErrBound}, {of(count(3)), of(count(3)), nil},
	} {
		c, err := Product(x.a, x.b)
		if err != x.want || err != nil && len(c.Facets) > 0 {
			t.Error(x, c, err)
		}
	}
}

func TestBoundary(t *testing.T) {
	c := read(t, "0 1 2")
	for dim, want := range map[int]string{0: "{0 3 []}", 1: "{3 3 [-1 -1 0 1 0 -1 0 1 1]}", 2: "{3 1 [1 -1 1]}", 3: "{1 0 []}", 4: "{0 0 []}", 7: "{0 0 []}"} {
		m, err := Boundary(c, dim)
		if got := fmt.Sprint(m); got != want || err != nil {
			t.Error(dim, got, err)
		}
	}
	if m, err := Boundary(read(t, "5 8 9; 8 20"), 1); fmt.Sprint(m) != "{4 4 [-1 -1 0 0 1 0 -1 -1 0 1 1 0 0 0 0 1]}" || err != nil {
		t.Error(m, err)
	}
	if m, err := Boundary(Complex{}, 0); m.Rows != 0 || m.Cols != 0 || len(m.L) != 0 || err != nil {
		t.Error(m, err)
	}
	for _, dim := range []int{-1, api.MaxDim + 2, math.MinInt, math.MaxInt} {
		if m, err := Boundary(c, dim); !errors.Is(err, api.ErrBound) || !reflect.DeepEqual(m, smith.Matrix{}) {
			t.Error(dim, m, err)
		}
	}
	great, _ := Make(graph(500))
	if m, err := Boundary(great, 1); m.Rows != 100 || m.Cols != 500 || len(m.L) != 50000 || err != nil {
		t.Error(m.Rows, m.Cols, err)
	}
	if m, err := Boundary(of(count(7)), 6); fmt.Sprint(m) != "{7 1 [1 -1 1 -1 1 -1 1]}" || err != nil {
		t.Error(m, err)
	}
}

func TestBoundaryOfBoundaryIsNothing(t *testing.T) {
	r := rand.New(rand.NewSource(25))
	for range 50 {
		c := random(r, 7)
		for dim := 1; dim <= api.MaxDim+1; dim++ {
			low, err := Boundary(c, dim-1)
			high, wrong := Boundary(c, dim)
			if err != nil || wrong != nil {
				t.Fatal(err, wrong)
			}
			p, err := smith.Product(low, high)
			if err != nil || slices.ContainsFunc(p.L, func(x int) bool { return x != 0 }) {
				t.Error(c, dim, p, err)
			}
		}
	}
}

func TestText(t *testing.T) {
	for text, want := range map[string]string{
		"": "", " ": "", "      ": "", "0": "0", "00": "0", "07": "7", "7": "7", "99": "99",
		" 2 1;0 ": "0; 1 2", "0 1 2;0 1": "0 1 2", "1  2;  3 4  ;5": "1 2; 3 4; 5", "2;1;0;1": "0; 1; 2", "10 9;9 8": "8 9; 9 10",
	} {
		if got := must(t)(Read(text)); got != want {
			t.Errorf("%q: %q", text, got)
		}
	}
	if got := must(t)(of([]int{0, 1, 2}, []int{2, 3}), nil); got != "0 1 2; 2 3" {
		t.Error(got)
	}
}

func TestReadTellsWhere(t *testing.T) {
	for text, want := range map[string]struct {
		at  int
		err error
	}{
		";": {0, api.ErrText}, " ;": {1, api.ErrText}, "0;": {2, api.ErrText}, "0; ": {3, api.ErrText}, "0;;1": {2, api.ErrText}, "0; ;1": {3, api.ErrText}, ";0": {0, api.ErrText},
		"100": {2, api.ErrText}, "007": {2, api.ErrText}, "1 234": {4, api.ErrText}, "0,1": {1, api.ErrText}, "0 1 x": {4, api.ErrText}, "x": {0, api.ErrText}, "-1": {0, api.ErrText}, "+1": {0, api.ErrText}, "1.": {1, api.ErrText},
		"0\t1": {1, api.ErrText}, "\n": {0, api.ErrText}, "0\n": {1, api.ErrText}, "0 é": {2, api.ErrText}, "\xff": {0, api.ErrText}, "0\x00": {1, api.ErrText}, "٣": {0, api.ErrText},
		"0 0": {0, api.ErrFace}, "1;2;0 1 00": {0, api.ErrFace}, "0 1 2 3 4 5 6 7": {0, api.ErrBound}, "0 1 2 3 4 5 6 7; 0 0": {0, api.ErrFace},
		"0 0;":                                   {4, api.ErrText},
		strings.Repeat(" ", api.MaxText+1):       {0, api.ErrBound},
		strings.Repeat("x", api.MaxText+1):       {0, api.ErrBound},
		strings.Repeat(" ", api.MaxText-1) + ";": {api.MaxText - 1, api.ErrText},
	} {
		c, err := Read(text)
		f, ok := err.(*api.Fault)
		if !ok || f.At != want.at || f.Err != want.err || len(c.Facets) > 0 {
			t.Errorf("%.40q: %v %v", text, f, c)
		}
	}
	for _, text := range []string{strings.Repeat(" ", api.MaxText), strings.Repeat(" ", api.MaxText-1) + "1", strings.Repeat("1;", api.MaxText/2-1) + " 1"} {
		if _, err := Read(text); err != nil {
			t.Error(len(text), err)
		}
	}
}

// Beginnings of texts, and whole ones, told by patterns.
var (
	begins = regexp.MustCompile(`^( *\d\d?( +\d\d?)* *;)* *(\d\d?( +\d\d?)* *)?$`)
	wholes = regexp.MustCompile(`^( *\d\d?( +\d\d?)* *;)* *\d\d?( +\d\d?)* *$|^ *$`)
)

func TestReadByPatterns(t *testing.T) {
	r := rand.New(rand.NewSource(26))
	for range 20000 {
		text := make([]byte, r.Intn(12))
		for i := range text {
			text[i] = " 0123456;;x  78"[r.Intn(15)]
		}
		at := 0
		for at < len(text) && begins.Match(text[:at+1]) {
			at++
		}
		_, err := Read(string(text))
		var f *api.Fault
		if errors.As(err, &f); wholes.Match(text) {
			if err != nil && (f.Err == api.ErrText || f.At != 0) {
				t.Errorf("%q: %v", text, err)
			}
		} else if f == nil || f.At != at || f.Err != api.ErrText {
			t.Errorf("%q: %d %v %v", text, at, f, err)
		}
	}
}

// random complex of few vertices.
func random(r *rand.Rand, vertices int) Complex {
	var sets [][]int
	for range r.Intn(5) {
		sets = append(sets, r.Perm(vertices)[:1+r.Intn(min(4, vertices))])
	}
	c, err := Make(sets)
	if err != nil {
		panic(err)
	}
	return c
}

// A shape is a complex told another way: each of its faces is a number whose bits are its vertices.
type shape map[uint]bool

func bits(face []int) uint {
	var out uint
	for _, v := range face {
		out |= 1 << v
	}
	return out
}

func shapeOf(c Complex) shape {
	out := shape{}
	for _, f := range c.Facets {
		for part, all := uint(1), bits(f); part <= all; part++ {
			if part&all == part {
				out[part] = true
			}
		}
	}
	return out
}

func (s shape) where(keep func(face uint) bool) shape {
	out := shape{}
	for face := range s {
		if keep(face) {
			out[face] = true
		}
	}
	return out
}

func size(face uint) int {
	n := 0
	for ; face > 0; face &= face - 1 {
		n++
	}
	return n
}

func TestByShapes(t *testing.T) {
	r := rand.New(rand.NewSource(20))
	ask := func(name string, want shape) func(c Complex, err error) {
		return func(c Complex, err error) {
			t.Helper()
			if err != nil || Valid(c) != nil || !reflect.DeepEqual(shapeOf(c), want) {
				t.Error(name, c, err, want)
			}
		}
	}
	for range 300 {
		a, b := random(r, 6), random(r, 6)
		s, o := shapeOf(a), shapeOf(b)
		both := s.where(func(f uint) bool { return o[f] })
		either := s.where(func(uint) bool { return true })
		for f := range o {
			either[f] = true
		}
		ask("union", either)(Union(a, b))
		ask("meet", both)(Meet(a, b))
		dim := r.Intn(5) - 1
		ask("skeleton", s.where(func(f uint) bool { return size(f) <= dim+1 }))(Skeleton(a, dim))
		for face := range s {
			f := vertices(face)
			star := s.where(func(x uint) bool { return s[x|face] })
			ask("star", star)(Star(a, f))
			ask("link", star.where(func(x uint) bool { return x&face == 0 }))(Link(a, f))
		}
		askCounts(t, a, s)
	}
}

func vertices(face uint) []int {
	var out []int
	for v := range 64 {
		if face>>v&1 == 1 {
			out = append(out, v)
		}
	}
	return out
}

func askCounts(t *testing.T, c Complex, s shape) {
	t.Helper()
	v, err := Vector(c)
	if err != nil {
		t.Error(err)
	}
	sum, euler := 0, 0
	for dim, n := range v {
		l, err := Faces(c, dim)
		if err != nil || len(l) != n || !slices.IsSortedFunc(l, slices.Compare[[]int]) {
			t.Error(c, dim, l, err)
		}
		for _, f := range l {
			if ok, err := Has(c, f); !s[bits(f)] || size(bits(f)) != dim+1 || !ok || err != nil {
				t.Error(c, f, ok, err)
			}
		}
		sum, euler = sum+n, euler+n*(1-2*(dim%2))
	}
	if got, err := Euler(c); got != euler || sum != len(s) || err != nil {
		t.Error(c, got, euler, sum, len(s), err)
	}
}

func TestJoinByShapes(t *testing.T) {
	r := rand.New(rand.NewSource(23))
	for range 200 {
		a, b := random(r, 4), random(r, 4)
		up := 0
		for _, f := range a.Facets {
			up = max(up, f[len(f)-1]+1)
		}
		want := shapeOf(a)
		for g := range shapeOf(b) {
			want[g<<up] = true
			for f := range shapeOf(a) {
				want[f|g<<up] = true
			}
		}
		c, err := Join(a, b)
		if tall := slices.ContainsFunc(a.Facets, func(f []int) bool {
			return slices.ContainsFunc(b.Facets, func(g []int) bool { return len(f)+len(g) > api.MaxDim+1 })
		}); tall && err != api.ErrBound || !tall && (err != nil || Valid(c) != nil || !reflect.DeepEqual(shapeOf(c), want)) {
			t.Error(a, b, c, err)
		}
	}
}

func TestProductByShapes(t *testing.T) {
	r := rand.New(rand.NewSource(24))
	for range 60 {
		a, b := random(r, 4), random(r, 3)
		av, _ := Faces(a, 0)
		bv, _ := Faces(b, 0)
		s, o := shapeOf(a), shapeOf(b)
		want := shape{}
		for set := uint(1); set < 1<<(len(av)*len(bv)); set++ {
			var firsts, seconds uint
			rising, last := true, -1
			for _, x := range vertices(set) { // ordered by the first, then the second: so the seconds must not fall
				firsts |= 1 << av[x/len(bv)][0]
				seconds |= 1 << bv[x%len(bv)][0]
				rising = rising && x%len(bv) >= last
				last = x % len(bv)
			}
			if rising && s[firsts] && o[seconds] {
				want[set] = true
			}
		}
		if c, err := Product(a, b); err != nil || Valid(c) != nil || !reflect.DeepEqual(shapeOf(c), want) {
			t.Error(a, b, c, err)
		}
	}
}

func TestNothingIsShared(t *testing.T) {
	text := "0 1 2; 1 2 3; 3 4; 9"
	for name, call := range map[string]func(c Complex) ([][]int, error){
		"Make":     func(c Complex) ([][]int, error) { d, err := Make(c.Facets); return d.Facets, err },
		"Faces":    func(c Complex) ([][]int, error) { return Faces(c, 1) },
		"Star":     func(c Complex) ([][]int, error) { d, err := Star(c, []int{3}); return d.Facets, err },
		"Link":     func(c Complex) ([][]int, error) { d, err := Link(c, []int{3}); return d.Facets, err },
		"Skeleton": func(c Complex) ([][]int, error) { d, err := Skeleton(c, 2); return d.Facets, err },
		"Join":     func(c Complex) ([][]int, error) { d, err := Join(c, Complex{}); return d.Facets, err },
		"Cone":     func(c Complex) ([][]int, error) { d, err := Cone(c); return d.Facets, err },
		"Suspend":  func(c Complex) ([][]int, error) { d, err := Suspend(c); return d.Facets, err },
		"Union":    func(c Complex) ([][]int, error) { d, err := Union(c, c); return d.Facets, err },
		"Meet":     func(c Complex) ([][]int, error) { d, err := Meet(c, c); return d.Facets, err },
		"Product":  func(c Complex) ([][]int, error) { d, err := Product(c, of([]int{0})); return d.Facets, err },
	} {
		c := read(t, text)
		got, err := call(c)
		told := fmt.Sprint(got)
		if now, _ := Text(c); now != text || err != nil {
			t.Error(name, "changed what it was handed:", now, err)
		}
		for _, f := range c.Facets {
			clear(f)
		}
		for i := range got { // what is written behind a list must not show in another one
			got[i] = append(got[i], 77)
		}
		for i := range got {
			got[i] = got[i][:len(got[i])-1]
		}
		if now := fmt.Sprint(got); now != told {
			t.Error(name, "shares memory:", now, told)
		}
	}
}

func TestWhatLiesBehindAListIsNotTouched(t *testing.T) {
	memory := []int{2, 1, 0, 55, 56}
	sets := [][]int{memory[:3], {3}, {8, 8}}
	if c, err := Make(sets[:2]); fmt.Sprint(c) != "{[[0 1 2] [3]]}" || err != nil {
		t.Error(c, err)
	}
	if !slices.Equal(memory, []int{2, 1, 0, 55, 56}) || fmt.Sprint(sets) != "[[2 1 0] [3] [8 8]]" {
		t.Error(memory, sets)
	}
}
