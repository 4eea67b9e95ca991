package manifold

import (
	"errors"
	"fmt"
	"math"
	"math/rand"
	"reflect"
	"slices"
	"strings"
	"testing"

	"handlebody/api"
	"handlebody/cells"
	"handlebody/homology"
	"handlebody/surface"
)

const (
	circle  = "0 1; 1 2; 0 2"
	square  = "0 1; 1 2; 2 3; 0 3"
	ball    = "0 1 2; 0 1 3; 0 2 3; 1 2 3" // hollow
	octa    = "0 1 2; 0 1 4; 0 2 5; 0 4 5; 1 2 3; 1 3 4; 2 3 5; 3 4 5"
	torus   = "0 1 3; 1 2 4; 2 3 5; 3 4 6; 4 5 0; 5 6 1; 6 0 2; 0 2 3; 1 3 4; 2 4 5; 3 5 6; 4 6 0; 5 0 1; 6 1 2"
	plane   = "0 1 2; 0 2 3; 0 3 4; 0 4 5; 0 1 5; 1 2 4; 2 3 5; 1 3 4; 2 4 5; 1 3 5"
	moebius = "0 1 2; 1 2 3; 2 3 4; 0 3 4; 0 1 4"
	band    = "0 1 3; 1 3 4; 1 2 4; 2 4 5; 0 2 5; 0 3 5"
)

func read(t *testing.T, text string) cells.Complex {
	t.Helper()
	c, err := cells.Read(text)
	if err != nil {
		t.Fatal(text, err)
	}
	return c
}

func textOf(t *testing.T, c cells.Complex) string {
	t.Helper()
	text, err := cells.Text(c)
	if err != nil {
		t.Fatal(c, err)
	}
	return text
}

func made(sets [][]int) cells.Complex {
	c, err := cells.Make(sets)
	if err != nil {
		panic(err)
	}
	return c
}

// of a call of cells on a text or two, which must not fail.
func of(t *testing.T, call func(a, b cells.Complex) (cells.Complex, error), a, b string) cells.Complex {
	t.Helper()
	c, err := call(read(t, a), read(t, b))
	if err != nil {
		t.Fatal(a, b, err)
	}
	return c
}

// grid: rows of squares, each cut in two, around in both directions; turned: with the last row glued to the first one backward.
func grid(rows, cols int, turned bool) cells.Complex {
	number := func(i, k int) int {
		if turned && i == rows {
			k = 2*cols - k
		}
		return i%rows*cols + k%cols
	}
	var sets [][]int
	for i := range rows {
		for k := range cols {
			a, b, c, d := number(i, k), number(i, k+1), number(i+1, k), number(i+1, k+1)
			sets = append(sets, []int{a, b, d}, []int{a, c, d})
		}
	}
	return made(sets)
}

// strip of so many triangles, each on the one ahead.
func strip(n int) cells.Complex {
	var sets [][]int
	for i := range n {
		sets = append(sets, []int{i, i + 1, i + 2})
	}
	return made(sets)
}

// apart: so many simplices of that many vertices.
func apart(n, size int) cells.Complex {
	var sets [][]int
	for i := range n {
		var set []int
		for k := range size {
			set = append(set, i*size+k)
		}
		sets = append(sets, set)
	}
	return made(sets)
}

// renamed: the vertices given anew, at random.
func renamed(r *rand.Rand, c cells.Complex) cells.Complex {
	names := r.Perm(api.MaxVertex + 1)
	var sets [][]int
	for _, f := range c.Facets {
		var set []int
		for _, v := range f {
			set = append(set, names[v])
		}
		sets = append(sets, set)
	}
	return made(sets)
}

// solids of dimension 3, and whether they are manifolds.
func solids(t *testing.T) map[string]struct {
	c    cells.Complex
	want bool
} {
	type row = struct {
		c    cells.Complex
		want bool
	}
	return map[string]row{
		"a tetrahedron":             {read(t, "0 1 2 3"), true},
		"two at a triangle":         {read(t, "0 1 2 3; 1 2 3 4"), true},
		"two at an edge":            {read(t, "0 1 2 3; 2 3 4 5"), false},
		"two at a vertex":           {read(t, "0 1 2 3; 3 4 5 6"), false},
		"two apart":                 {read(t, "0 1 2 3; 4 5 6 7"), true},
		"three at a triangle":       {read(t, "0 1 2 3; 0 1 2 4; 0 1 2 5"), false},
		"one and a triangle":        {read(t, "0 1 2 3; 1 2 4"), false},
		"one and a point":           {read(t, "0 1 2 3; 4"), false},
		"the sphere of five":        {made(combinations(5, 4)), true},
		"without one":               {made(combinations(5, 4)[1:]), true},
		"without two":               {made(combinations(5, 4)[2:]), true},
		"a cone over a sphere":      {of(t, cells.Join, ball, "0"), true},
		"a cone over a disk":        {of(t, cells.Join, "0 1 2; 1 2 3", "0"), true},
		"a cone over a torus":       {of(t, cells.Join, torus, "0"), false},
		"a cone over a plane":       {of(t, cells.Join, plane, "0"), false}, // Euler 1, as a disk has it, and no rim
		"a cone over a band":        {of(t, cells.Join, band, "0"), false},
		"a cone over a twist":       {of(t, cells.Join, moebius, "0"), false},
		"a cone over two spheres":   {of(t, cells.Join, "0 1 2; 0 1 3; 0 2 3; 1 2 3; 4 5 6; 4 5 7; 4 6 7; 5 6 7", "0"), false},
		"a cone over two disks":     {of(t, cells.Join, "0 1 2; 3 4 5", "0"), false},
		"a suspended octahedron":    {of(t, cells.Join, octa, "0; 1"), true},
		"a suspended plane":         {of(t, cells.Join, plane, "0; 1"), false},
		"circle and circle, joined": {of(t, cells.Join, circle, square), true},
		"circle and path, joined":   {of(t, cells.Join, circle, "0 1; 1 2"), true},
		"circle times sphere":       {of(t, cells.Product, circle, ball), true},
		"circle times torus":        {of(t, cells.Product, circle, torus), true},
		"circle times plane":        {of(t, cells.Product, circle, plane), true},
		"circle times twist":        {of(t, cells.Product, circle, moebius), true},
		"circle times disk":         {of(t, cells.Product, circle, "0 1 2"), true},
		"edge times torus":          {of(t, cells.Product, "0 1", torus), true},
		"edge times plane":          {of(t, cells.Product, "0 1; 1 2", plane), true},
		"two points times twist":    {of(t, cells.Product, "0 1; 2 3", moebius), true},
		"fork times circle":         {of(t, cells.Product, "0 1; 0 2; 0 3", "0 1 2"), false},
	}
}

// combinations: all sets of so many of the vertices 0 to n - 1.
func combinations(n, size int) [][]int {
	var out [][]int
	var grow func(set []int, next int)
	grow = func(set []int, next int) {
		if len(set) == size {
			out = append(out, slices.Clone(set))
			return
		}
		for v := next; v < n; v++ {
			grow(append(set, v), v+1)
		}
	}
	grow(nil, 0)
	return out
}

// surfaces of dimension 2 by their texts, and their kinds.
func surfaces() map[string]string {
	return map[string]string{
		ball: "[{true 0 0}]", octa: "[{true 0 0}]", torus: "[{true 1 0}]", plane: "[{false 1 0}]", moebius: "[{false 1 1}]", band: "[{true 0 2}]",
		"7 8 9":               "[{true 0 1}]",
		"0 1 2; 3 4 5":        "[{true 0 1} {true 0 1}]",
		"0 1 2; 0 1 3; 0 2 3": "[{true 0 1}]",
		"0 1 2; 0 1 3":        "[{true 0 1}]",
		"7 8 9; 10 11 12; 10 11 13; 10 12 13; 11 12 13":                                                               "[{true 0 0} {true 0 1}]",
		moved(moebius, 10) + "; " + plane + "; " + moved(torus, 30) + "; " + moved(band, 50) + "; " + moved(ball, 70): "[{true 0 0} {true 0 2} {true 1 0} {false 1 0} {false 1 1}]",
	}
}

// moved: a complex's text with each vertex so much more.
func moved(text string, up int) string {
	words := strings.Fields(strings.ReplaceAll(text, ";", " ;"))
	for i, w := range words {
		var v int
		if n, _ := fmt.Sscan(w, &v); n == 1 {
			words[i] = fmt.Sprint(v + up)
		}
	}
	return strings.Join(words, " ")
}

func TestShape(t *testing.T) {
	for text, want := range map[string]string{
		"0": "ball", "99": "ball", "0; 1": "sphere", "3; 70": "sphere", "0; 1; 2": "", "0; 1; 2; 3": "",
		"0 1": "ball", "5 9": "ball", "0 1; 1 2": "ball", "0 1; 0 2; 1 3": "ball", circle: "sphere", square: "sphere",
		"0 1; 2 3": "", "0 1; 1 2; 1 3": "", "0 1; 2": "", "0 1; 1 2; 0 2; 3": "", "0 1; 1 2; 0 2; 3 4; 4 5; 3 5": "", "0 1; 1 2; 0 2; 3 4": "", "0 1; 1 2; 0 2; 2 3": "", "0 1; 0 2; 1 2; 0 3; 0 4; 3 4": "",
		"0 1 2": "ball", "0 1 2; 1 2 3": "ball", "0 1 2; 0 1 3; 0 2 3": "ball", ball: "sphere", octa: "sphere",
		torus: "", plane: "", moebius: "", band: "",
		"0 1 2; 2 3": "", "0 1 2; 3": "", "0 1 2; 2 3 4": "", "0 1 2; 3 4 5": "", "0 1 2; 0 1 3; 0 1 4": "",
		ball + "; " + moved(ball, 4):  "", // Euler 4
		ball + "; " + moved(torus, 4): "", // Euler 2 and no rim, but not connected
		"7 8 9; " + torus:             "", // Euler 1 and one rim
		ball + "; 3 4 5":              "", // a vertex's link is not connected
	} {
		if got, err := Shape(read(t, text)); got != want || err != nil {
			t.Error(text, got, err)
		}
	}
	for _, text := range []string{"", "0 1 2 3", "0 1 2; 3 4 5 6", "0 1 2 3 4 5 6", "0; 1 2 3 4"} {
		if got, err := Shape(read(t, text)); got != "" || err != api.ErrBound {
			t.Error(text, got, err)
		}
	}
}

func TestIs(t *testing.T) {
	for text, want := range map[string]bool{
		"0 1": true, "0 1; 1 2": true, circle: true, "0 1; 2 3": true, circle + "; 7 8": true,
		"0 1; 1 2; 1 3": false, "0 1; 2": false, "0 1; 0 2; 1 2; 0 3; 0 4; 3 4": false,
		"0 1 2; 2 3": false, "0 1 2; 3": false, "0 1 2; 2 3 4": false, "0 1 2; 0 1 3; 0 1 4": false, ball + "; 3 4 5": false, "0 1 2; 3 4": false,
		moved(ball, 1) + "; " + "0 1 5; 0 1 6; 0 5 6; 1 5 6": false,
	} {
		if is, err := Is(read(t, text)); is != want || err != nil {
			t.Error(text, is, err)
		}
	}
	for text := range surfaces() {
		if is, err := Is(read(t, text)); !is || err != nil {
			t.Error(text, is, err)
		}
	}
	for name, x := range solids(t) {
		if is, err := Is(x.c); is != x.want || err != nil {
			t.Error(name, is, err)
		}
	}
}

func TestRim(t *testing.T) {
	for text, want := range map[string]string{
		"0 1": "0; 1", "0 1; 1 2": "0; 2", circle: "", "0 1; 2 3; 4 9": "0; 1; 2; 3; 4; 9", "8 9; " + circle: "8; 9",
		"0 1 2": "0 1; 0 2; 1 2", "0 1 2; 1 2 3": "0 1; 0 2; 1 3; 2 3", ball: "", torus: "", plane: "", moebius: "0 2; 0 3; 1 3; 1 4; 2 4", band: "0 1; 0 2; 1 2; 3 4; 3 5; 4 5",
		"0 1 2; 0 1 3; 0 2 3": "1 2; 1 3; 2 3", "20 30 40; " + ball: "20 30; 20 40; 30 40",
		"0 1 2 3": ball, "0 1 2 3; 1 2 3 4": "0 1 2; 0 1 3; 0 2 3; 1 2 4; 1 3 4; 2 3 4", "0 1 2 3; 0 1 2 4; 0 1 3 4; 0 2 3 4; 1 2 3 4": "",
	} {
		c, err := Rim(read(t, text))
		if got := textOf(t, c); got != want || err != nil {
			t.Error(text, got, err)
		}
	}
}

func TestOrient(t *testing.T) {
	for text, want := range map[string]string{
		"0 1": "[1]", "0 1; 1 2": "[1 1]", "0 1; 0 2": "[1 -1]", "0 2; 1 2": "[1 -1]", circle: "[1 -1 1]", "0 1; 2 3; 3 4": "[1 1 1]", "0 2; 0 3; 1 4; 1 5; 2 6; 3 6": "[1 -1 1 -1 1 -1]",
		"0 1 2": "[1]", ball: "[1 -1 1 -1]", "0 1 2; 1 2 3": "[1 -1]", "0 1 2; 0 2 3": "[1 1]", "0 1 2; 3 4 5; 3 4 6": "[1 1 -1]", "0 3 5; 1 2 4; 1 2 6; 3 5 7": "[1 1 -1 -1]",
		"0 1 2 3": "[1]", "0 1 2 3; 0 1 2 4; 0 1 3 4; 0 2 3 4; 1 2 3 4": "[1 -1 1 -1 1]",
		plane: "[] false", moebius: "[] false", ball + "; " + moved(plane, 10): "[] false", moebius + "; 7 8 9": "[] false",
	} {
		l, ok, err := Orient(read(t, text))
		got := fmt.Sprint(l)
		if !ok {
			got += " false"
		}
		if got != want || err != nil {
			t.Error(text, got, err)
		}
	}
	for name, want := range map[string]bool{"circle times torus": true, "circle times plane": false, "circle times twist": false, "edge times torus": true, "edge times plane": false, "circle times sphere": true, "two points times twist": false} {
		if l, ok, err := Orient(solids(t)[name].c); ok != want || err != nil || !ok && l != nil {
			t.Error(name, l, ok, err)
		}
	}
}

// TestOrientClosed: Orient's signs, but none of what has a rim or several pieces.
func TestOrientClosed(t *testing.T) {
	for text, want := range map[string]bool{
		circle: true, square: true, ball: true, octa: true, torus: true, "0 1 2 3; 0 1 2 4; 0 1 3 4; 0 2 3 4; 1 2 3 4": true,
		"0 1": false, "0 1; 1 2": false, "0 1 2": false, band: false, "0 1 2 3": false, "0 1 2 3; 1 2 3 4": false,
		plane: false, moebius: false,
		circle + "; 3 4; 4 5; 3 5": false, ball + "; " + moved(ball, 10): false, ball + "; " + moved(plane, 10): false, plane + "; " + moved(ball, 10): false, ball + "; " + moved(band, 10): false,
	} {
		c := read(t, text)
		l, ok, err := OrientClosed(c)
		signs, _, _ := Orient(c)
		if ok != want || err != nil || ok && !slices.Equal(l, signs) || !ok && l != nil {
			t.Error(text, l, ok, err)
		}
	}
	for name, want := range map[string]bool{"circle times torus": true, "circle times plane": false, "edge times torus": false, "circle times sphere": true, "two points times twist": false, "two apart": false, "without one": false} {
		if l, ok, err := OrientClosed(solids(t)[name].c); ok != want || err != nil || !ok && l != nil {
			t.Error(name, l, ok, err)
		}
	}
}

func TestSurface(t *testing.T) {
	r := rand.New(rand.NewSource(83))
	for text, want := range surfaces() {
		for range 3 {
			k, err := Surface(renamed(r, read(t, text)))
			if got := fmt.Sprint(k.Pieces); got != want || err != nil {
				t.Error(text, got, err)
			}
		}
	}
}

// Surfaces of which there are more letters, or more edges, than words may have.
func TestGreatSurfaces(t *testing.T) {
	bored := made(grid(5, 5, false).Facets[2:])
	for _, x := range []struct {
		c    cells.Complex
		want string
	}{
		{grid(5, 5, false), "[{true 1 0}]"}, {grid(5, 5, true), "[{false 2 0}]"}, {grid(8, 12, false), "[{true 1 0}]"}, {grid(9, 11, true), "[{false 2 0}]"},
		{of(t, cells.Product, "0 1; 1 2; 2 3; 3 4; 4 5; 0 5", "0 1; 1 2; 2 3; 3 4"), "[{true 0 2}]"},
		{of(t, cells.Product, "0 1; 1 2; 2 3; 3 4; 4 5; 0 5", "0 1; 1 2; 2 3; 3 4; 5 6; 6 7"), "[{true 0 2} {true 0 2}]"},
		{strip(98), "[{true 0 1}]"}, {apart(33, 3), "[" + strings.Repeat(" {true 0 1}", 33)[1:] + "]"},
		{bored, "[{true 1 1}]"},
	} {
		k, err := Surface(x.c)
		if got := fmt.Sprint(k.Pieces); got != x.want || err != nil {
			t.Error(x.want, got, err)
		}
		if w, err := Words(x.c); err != api.ErrBound || w != nil {
			t.Error(x.want, w, err)
		}
	}
}

func TestWords(t *testing.T) {
	for text, want := range map[string]string{
		"0 1 2": "[[1 3 -2]]", "7 50 99": "[[1 3 -2]]", "0 1 2; 1 2 3": "[[1 3 -2] [3 5 -4]]", "0 1 2; 3 4 5": "[[1 3 -2] [4 6 -5]]", "0 1 5; 2 3 4; 2 3 5": "",
		ball: "[[1 4 -2] [1 5 -3] [2 6 -3] [4 6 -5]]", "0 3 5; 1 2 4; 1 2 6; 3 5 7": "[[1 8 -2] [3 6 -4] [3 7 -5] [8 10 -9]]",
	} {
		w, err := Words(read(t, text))
		if want == "" {
			if err != api.ErrKind || w != nil {
				t.Error(text, w, err)
			}
		} else if got := fmt.Sprint(w); got != want || err != nil {
			t.Error(text, got, err)
		}
	}
}

func TestTheBoundOfWords(t *testing.T) {
	for name, x := range map[string]struct {
		c    cells.Complex
		want error
	}{
		"40 triangles, 60 edges":    {grid(4, 5, false), nil},
		"that, turned":              {grid(4, 5, true), nil},
		"42 triangles, 63 edges":    {grid(3, 7, false), api.ErrBound},
		"29 triangles, 59 edges":    {strip(29), nil},
		"30 triangles, 61 edges":    {strip(30), api.ErrBound}, // 90 letters, but one above MaxLetter
		"20 triangles, 60 edges":    {apart(20, 3), nil},
		"21 triangles, 63 edges":    {apart(21, 3), api.ErrBound},
		"28 triangles and 1 apart":  {made(append(strip(28).Facets, []int{90, 91, 92})), nil},
		"29 triangles and 1 apart":  {made(append(strip(29).Facets, []int{90, 91, 92})), api.ErrBound},
		"as many letters, no words": {of(t, cells.Product, "0 1 2", circle), api.ErrKind},
	} {
		w, err := Words(x.c)
		if err != x.want || err != nil && w != nil || err == nil && len(w) != len(x.c.Facets) {
			t.Error(name, len(w), err)
		}
	}
}

// answers of all calls, each with its results but the error, and the error.
func answers(c cells.Complex) map[string][]any {
	shape, err0 := Shape(c)
	is, err1 := Is(c)
	rim, err2 := Rim(c)
	signs, ok, err3 := Orient(c)
	words, err4 := Words(c)
	kind, err5 := Surface(c)
	closed, sure, err6 := OrientClosed(c)
	return map[string][]any{
		"Shape": {shape, err0}, "Is": {is, err1}, "Rim": {len(rim.Facets), err2}, "Orient": {len(signs), ok, err3}, "Words": {len(words), err4}, "Surface": {len(kind.Pieces), err5},
		"OrientClosed": {len(closed), sure, err6},
	}
}

func askErrors(t *testing.T, name string, c cells.Complex, calls string, want error) {
	t.Helper()
	for call, l := range answers(c) {
		if !strings.Contains(" "+calls+" ", " "+call+" ") {
			continue
		}
		if l[len(l)-1] != error(want) {
			t.Error(name, call, l[len(l)-1], want)
		}
		for _, x := range l[:len(l)-1] {
			if !reflect.ValueOf(x).IsZero() {
				t.Error(name, call, "answers", x, "beside an error")
			}
		}
	}
}

func TestWrongComplexes(t *testing.T) {
	const all = "Shape Is Rim Orient OrientClosed Words Surface"
	for name, x := range map[string]struct {
		l    [][]int
		want error
	}{
		"a nil set":                 {[][]int{nil}, api.ErrFace},
		"an empty set":              {[][]int{{0, 1, 2}, {}}, api.ErrFace},
		"a vertex twice":            {[][]int{{0, 1, 1}}, api.ErrFace},
		"a vertex below 0":          {[][]int{{-1, 0, 1}}, api.ErrFace},
		"a vertex above":            {[][]int{{0, 1, 100}}, api.ErrFace},
		"the least number":          {[][]int{{math.MinInt, 0, 1}}, api.ErrFace},
		"the greatest number":       {[][]int{{0, 1, math.MaxInt}}, api.ErrFace},
		"a wrong one behind a tall": {[][]int{{0, 1, 2, 3, 4}, {3, 3}}, api.ErrFace},
		"a dimension too high":      {[][]int{{0, 1, 2, 3, 4, 5, 6, 7}}, api.ErrBound},
		"too many faces":            {combinations(16, 3), api.ErrBound},
		"too many, out of order":    {append(combinations(16, 3), []int{1, 0}), api.ErrBound},
		"falling":                   {[][]int{{2, 1, 0}}, api.ErrShape},
		"out of order":              {[][]int{{1, 2, 3}, {0, 1, 2}}, api.ErrShape},
		"a part":                    {[][]int{{0, 1}, {0, 1, 2}}, api.ErrShape},
		"a facet twice":             {[][]int{{0, 1, 2}, {0, 1, 2}}, api.ErrShape},
		"tall, and out of order":    {[][]int{{1, 2, 3, 4, 5}, {0, 1}}, api.ErrShape},
		"points out of order":       {[][]int{{1}, {0}}, api.ErrShape},
	} {
		askErrors(t, name, cells.Complex{Facets: x.l}, all, x.want)
	}
}

func TestWrongDimensionsAndKinds(t *testing.T) {
	const manifolds = "Is Rim Orient OrientClosed Words Surface"
	for _, text := range []string{"", "0", "0; 1", "0; 1; 2", "0 1 2 3 4", "0 1 2; 3 4 5 6 7", "0 1 2 3 4 5 6"} {
		askErrors(t, text, read(t, text), manifolds, api.ErrBound)
	}
	for _, text := range []string{"0 1; 1 2; 1 3", "0 1; 2", "0 1 2; 2 3", "0 1 2; 2 3 4", "0 1 2; 3", "0 1 2 3; 3 4 5 6", "0 1 2 3; 2 3 4", "0 1 2; 0 1 3; 0 1 4"} {
		askErrors(t, text, read(t, text), "Rim Orient OrientClosed Words Surface", api.ErrKind)
	}
	for _, text := range []string{"0 1", circle, "0 1 2 3", "0 1 2 3; 4 5 6 7"} {
		askErrors(t, text, read(t, text), "Words Surface", api.ErrKind)
	}
	askErrors(t, "a cone over a plane", solids(t)["a cone over a plane"].c, "Shape", api.ErrBound)
	askErrors(t, "a cone over a plane", solids(t)["a cone over a plane"].c, "Rim Orient OrientClosed Words Surface", api.ErrKind)
	var none *api.Fault
	if _, err := Rim(read(t, "0")); errors.As(err, &none) {
		t.Error("a place is told that no one asks for")
	}
}

// holds: a facet has all vertices of a face.
func holds(facet []int, face ...int) bool {
	for _, v := range face {
		if !slices.Contains(facet, v) {
			return false
		}
	}
	return true
}

// hangs: the facets that have a face can be reached from one another, each having all but one of the next one's vertices.
func hangs(c cells.Complex, face ...int) bool {
	var l [][]int
	for _, f := range c.Facets {
		if holds(f, face...) {
			l = append(l, f)
		}
	}
	seen := make([]bool, len(l))
	seen[0] = true
	for range l {
		for i, f := range l {
			for k, g := range l {
				seen[k] = seen[k] || seen[i] && len(common(f, g)) == len(f)-1
			}
		}
	}
	return !slices.Contains(seen, false)
}

func common(f, g []int) []int {
	var out []int
	for _, v := range f {
		if slices.Contains(g, v) {
			out = append(out, v)
		}
	}
	return out
}

func groupsOf(c cells.Complex, err error) []api.Group {
	if err != nil {
		panic(err)
	}
	l, err := homology.Complex(c)
	if err != nil {
		panic(err)
	}
	g, err := homology.Of(l)
	if err != nil {
		panic(err)
	}
	return g
}

// plainIs: a manifold, told another way: parts of one dimension less are of two facets at most, around a face of a lower dimension all facets hang together, and the vertices' links of a solid have the groups of a sphere or a point.
func plainIs(c cells.Complex) bool {
	v, _ := cells.Vector(c)
	n := len(v) - 1
	for _, f := range c.Facets {
		if len(f) != n+1 {
			return false
		}
	}
	low, _ := cells.Faces(c, n-1)
	for _, face := range low {
		times := 0
		for _, f := range c.Facets {
			if holds(f, face...) {
				times++
			}
		}
		if times > 2 {
			return false
		}
	}
	for dim := range n - 1 {
		l, _ := cells.Faces(c, dim)
		for _, face := range l {
			if !hangs(c, face...) {
				return false
			}
		}
	}
	if n < 3 {
		return true
	}
	for v := range v[0] {
		l, _ := cells.Faces(c, 0)
		g := fmt.Sprint(groupsOf(cells.Link(c, l[v])))
		if g != "[{1 []} {0 []} {1 []}]" && g != "[{1 []} {0 []} {0 []}]" {
			return false
		}
		link, _ := cells.Link(c, l[v])
		if closed := len(plainRim(link)) == 0; closed != (g == "[{1 []} {0 []} {1 []}]") {
			return false
		}
	}
	return true
}

// plainRim: of all parts with one vertex less, those that come up once.
func plainRim(c cells.Complex) [][]int {
	times := map[string]int{}
	var l [][]int
	for _, f := range c.Facets {
		for i := range f {
			part := slices.Delete(slices.Clone(f), i, i+1)
			times[fmt.Sprint(part)]++
			l = append(l, part)
		}
	}
	l = slices.DeleteFunc(l, func(f []int) bool { return times[fmt.Sprint(f)] != 1 })
	slices.SortFunc(l, slices.Compare[[]int])
	return l
}

// askManifold: what must be so of any complex of the dimensions 1 to 3, against plain versions and homology.
func askManifold(t *testing.T, c cells.Complex) bool {
	t.Helper()
	is, err := Is(c)
	if err != nil || is != plainIs(c) {
		t.Error(c, is, err)
	}
	rim, err := Rim(c)
	if !is {
		askErrors(t, fmt.Sprint(c), c, "Rim Orient OrientClosed Words Surface", api.ErrKind)
		return false
	}
	if err != nil || cells.Valid(rim) != nil || !slices.EqualFunc(rim.Facets, plainRim(c), slices.Equal[[]int]) {
		t.Error(c, rim, err)
	}
	askRim(t, c, rim)
	askSigns(t, c, rim)
	if len(c.Facets[0]) == 3 {
		askSurface(t, c)
	}
	return true
}

// askRim: a rim is a manifold without rim, or points, or has no faces; of a closed manifold of odd dimension Euler is 0.
func askRim(t *testing.T, c, rim cells.Complex) {
	t.Helper()
	dim := len(c.Facets[0]) - 1
	n, _ := cells.Euler(c)
	if len(rim.Facets) == 0 {
		if dim%2 == 1 && n != 0 {
			t.Error(c, "is closed, of odd dimension, and has", n)
		}
		return
	}
	if dim == 1 {
		pairs, _ := cells.Euler(rim)
		if len(rim.Facets[0]) != 1 || pairs != 2*n {
			t.Error(c, rim)
		}
		return
	}
	next, err := Rim(rim)
	if err != nil || len(next.Facets) > 0 || len(rim.Facets[0]) != dim {
		t.Error(c, rim, next, err)
	}
}

// askSigns: they take the facets to the rim alone; and there are some just if each piece has a hole of the highest dimension, once its rim counts as nothing.
func askSigns(t *testing.T, c, rim cells.Complex) {
	t.Helper()
	l, ok, err := Orient(c)
	if err != nil {
		t.Error(c, err)
	}
	dim := len(c.Facets[0]) - 1
	chain, err := homology.Relative(c, rim)
	if err != nil {
		t.Error(err)
	}
	g, err := homology.Of(chain)
	count := groupsOf(c, nil)[0].Free
	if err != nil || ok != (g[dim].Free == count) {
		t.Error(c, ok, g, err)
	}
	if closed := len(rim.Facets) == 0; closed && count == 1 && ok != (groupsOf(c, nil)[dim].Free == 1) {
		t.Error(c, ok)
	}
	if !ok {
		if l != nil {
			t.Error(c, l)
		}
		return
	}
	askOrientation(t, c, rim, l)
	askFirsts(t, c, l)
}

func askOrientation(t *testing.T, c, rim cells.Complex, l []int) {
	t.Helper()
	dim := len(c.Facets[0]) - 1
	m, _ := cells.Boundary(c, dim)
	rows, _ := cells.Faces(c, dim-1)
	if len(l) != m.Cols {
		t.Fatal(c, l)
	}
	for i, face := range rows {
		sum := 0
		for k, sign := range l {
			sum += sign * m.L[i*m.Cols+k]
		}
		if outer, _ := cells.Has(rim, face); outer != (sum != 0) || sum < -1 || sum > 1 {
			t.Error(c, l, face, sum)
		}
	}
}

// askFirsts: each piece's first facet has 1.
func askFirsts(t *testing.T, c cells.Complex, l []int) {
	t.Helper()
	var reached [api.MaxVertex + 1]bool
	for i, f := range c.Facets {
		if reached[f[0]] {
			continue
		}
		if l[i] != 1 {
			t.Error(c, l, i)
		}
		reached[f[0]] = true
		for range c.Facets {
			for _, g := range c.Facets {
				if slices.ContainsFunc(g, func(v int) bool { return reached[v] }) {
					for _, v := range g {
						reached[v] = true
					}
				}
			}
		}
	}
}

func askSurface(t *testing.T, c cells.Complex) {
	t.Helper()
	k, err := Surface(c)
	if err != nil || len(k.Pieces) != groupsOf(c, nil)[0].Free {
		t.Error(c, k, err)
	}
	w, err := Words(c)
	if edges, _ := cells.Faces(c, 1); len(edges) > api.MaxLetter || len(c.Facets) > api.MaxWord/3 {
		if err != api.ErrBound {
			t.Error(c, err)
		}
		return
	}
	if err != nil || fmt.Sprint(w) != fmt.Sprint(plainWords(c)) {
		t.Error(c, w, err)
	}
	other, err := surface.Classify(w)
	if err != nil || !slices.Equal(k.Pieces, other.Pieces) {
		t.Error(c, k, other, err)
	}
}

func plainWords(c cells.Complex) surface.Words {
	l, _ := cells.Faces(c, 1)
	number := map[string]int{}
	for i, e := range l {
		number[fmt.Sprint(e)] = i + 1
	}
	var out surface.Words
	for _, f := range c.Facets {
		out = append(out, []int{number[fmt.Sprint(f[:2])], number[fmt.Sprint(f[1:])], -number[fmt.Sprint([]int{f[0], f[2]})]})
	}
	return out
}

func TestKnownManifolds(t *testing.T) {
	r := rand.New(rand.NewSource(85))
	for text := range surfaces() {
		if c := read(t, text); !askManifold(t, c) || !askManifold(t, renamed(r, c)) {
			t.Error(text)
		}
	}
	for name, x := range solids(t) {
		if askManifold(t, x.c) != x.want || askManifold(t, renamed(r, x.c)) != x.want {
			t.Error(name)
		}
	}
	for _, c := range []cells.Complex{grid(3, 3, false), grid(4, 5, true), grid(3, 5, true), strip(20), apart(10, 3), apart(30, 2), apart(20, 4), read(t, circle), read(t, square), read(t, "0 1; 1 2; 4 5")} {
		if !askManifold(t, c) || !askManifold(t, renamed(r, c)) {
			t.Error(c)
		}
	}
}

// chosen: some of the sets, at random.
func chosen(r *rand.Rand, sets [][]int, n int) [][]int {
	var out [][]int
	for _, i := range r.Perm(len(sets))[:n] {
		out = append(out, sets[i])
	}
	return out
}

// All graphs of five vertices, and all sets of triangles.
func TestAllSmallComplexes(t *testing.T) {
	for size := 2; size <= 4; size++ {
		all := combinations(5, size)
		found := 0
		for set := 1; set < 1<<len(all); set++ {
			var sets [][]int
			for i, f := range all {
				if set>>i&1 == 1 {
					sets = append(sets, f)
				}
			}
			if askManifold(t, made(sets)) {
				found++
			}
		}
		if found < 20 {
			t.Error(size, found)
		}
	}
}

func TestPartsOfManifolds(t *testing.T) {
	r := rand.New(rand.NewSource(81))
	bodies := []cells.Complex{read(t, torus), read(t, plane), read(t, octa), grid(3, 4, true), made(combinations(5, 4)), of(t, cells.Product, circle, ball), of(t, cells.Join, circle, square), of(t, cells.Join, plane, "0; 1")}
	found := 0
	for i, c := range bodies {
		for range 60 {
			n := len(c.Facets) - r.Intn(min(5, len(c.Facets)))
			if r.Intn(2) == 0 {
				n = 1 + r.Intn(min(4, len(c.Facets)))
			}
			if askManifold(t, renamed(r, made(chosen(r, c.Facets, n)))) {
				found++
			}
		}
		if found < 10*(i+1) {
			t.Error(i, found)
		}
	}
}

// Sets of any sizes: most are not pure.
func TestRandomComplexes(t *testing.T) {
	r := rand.New(rand.NewSource(80))
	for range 1500 {
		var sets [][]int
		for range 1 + r.Intn(6) {
			sets = append(sets, r.Perm(7)[:2+r.Intn(3)])
		}
		askManifold(t, made(sets))
	}
}

// A shape of the dimensions 1 and 2 against its groups.
func TestShapesByGroups(t *testing.T) {
	r := rand.New(rand.NewSource(82))
	found := map[string]int{}
	for range 3000 {
		size := 1 + r.Intn(3)
		all := combinations(4+r.Intn(3), size)
		c := renamed(r, made(chosen(r, all, 1+r.Intn(min(8, len(all))))))
		want := ""
		if size == 1 {
			want = map[int]string{1: "ball", 2: "sphere"}[len(c.Facets)]
		} else if plainIs(c) {
			want = shapeByGroups(groupsOf(c, nil), len(plainRim(c)) == 0)
		}
		got, err := Shape(c)
		if got != want || err != nil {
			t.Error(c, got, want, err)
		}
		found[fmt.Sprint(size, got)]++
	}
	for _, name := range []string{"1ball", "1sphere", "1", "2ball", "2sphere", "2", "3ball", "3sphere", "3"} {
		if found[name] < 3 {
			t.Error(name, found[name])
		}
	}
}

func shapeByGroups(g []api.Group, closed bool) string {
	rests, last := g[:len(g)-1], g[len(g)-1]
	for dim, x := range rests {
		if len(x.Torsion) > 0 || dim == 0 && x.Free != 1 || dim > 0 && x.Free != 0 {
			return ""
		}
	}
	switch {
	case closed && last.Free == 1:
		return "sphere"
	case !closed && last.Free == 0:
		return "ball"
	}
	return ""
}

func TestNothingIsSharedOrChanged(t *testing.T) {
	for _, text := range []string{moebius, band, "0 1 2; 1 2 3; 7 8 9"} {
		c := read(t, text)
		for i, f := range c.Facets { // and what lies behind a list is left alone
			c.Facets[i] = append(slices.Clone(f), 77)[:len(f)]
		}
		told := fmt.Sprint(c)
		rim, _ := Rim(c)
		l, _, _ := Orient(c)
		w, _ := Words(c)
		k, _ := Surface(c)
		before := fmt.Sprint(rim, l, w, k)
		if fmt.Sprint(c) != told {
			t.Error(text, "was changed", c)
		}
		for _, f := range c.Facets {
			if f[:4][3] != 77 {
				t.Error(text, "was written behind")
			}
			clear(f)
		}
		for _, lists := range [][][]int{rim.Facets, w} {
			for i := range lists { // what is written behind a list must not show in another one
				_ = append(lists[i], 77)
			}
		}
		if now := fmt.Sprint(rim, l, w, k); now != before {
			t.Error(text, "is shared", now, before)
		}
	}
}

func TestTheSameTwice(t *testing.T) {
	for _, c := range []cells.Complex{grid(4, 5, true), solids(t)["circle times torus"].c, read(t, torus)} {
		first := fmt.Sprint(answers(c))
		for range 3 {
			if now := fmt.Sprint(answers(c)); now != first {
				t.Error(now, first)
			}
		}
	}
}
