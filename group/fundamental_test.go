package group

import (
	"fmt"
	"math/rand"
	"reflect"
	"slices"
	"testing"

	"handlebody/api"
	"handlebody/cells"
	"handlebody/homology"
)

const (
	circle  = "0 1; 1 2; 0 2"
	hollow  = "0 1 2; 0 1 3; 0 2 3; 1 2 3"
	torus   = "0 1 3; 1 2 4; 2 3 5; 3 4 6; 4 5 0; 5 6 1; 6 0 2; 0 2 3; 1 3 4; 2 4 5; 3 5 6; 4 6 0; 5 0 1; 6 1 2"
	plane   = "0 1 2; 0 2 3; 0 3 4; 0 4 5; 0 1 5; 1 2 4; 2 3 5; 1 3 4; 2 4 5; 1 3 5"
	moebius = "0 1 2; 1 2 3; 2 3 4; 0 3 4; 0 1 4"
)

func read(t *testing.T, text string) cells.Complex {
	t.Helper()
	c, err := cells.Read(text)
	if err != nil {
		t.Fatal(text, err)
	}
	return c
}

// bundle: 0 and 1, and so many points each of which has an edge to both; one generator less.
func bundle(points int) [][]int {
	var out [][]int
	for i := range points {
		out = append(out, []int{0, i + 2}, []int{1, i + 2})
	}
	return out
}

func made(sets [][]int) cells.Complex {
	c, err := cells.Make(sets)
	if err != nil {
		panic(err)
	}
	return c
}

func TestFundamental(t *testing.T) {
	for text, want := range map[string]string{
		"5":                                    "{0 []} []",
		"0 1":                                  "{0 []} []",
		"0 1; 1 2; 2 3":                        "{0 []} []",
		circle:                                 "{1 []} [[1 2]]",
		"7 8; 8 9; 7 9":                        "{1 []} [[8 9]]",
		"0 1 2":                                "{1 [[1]]} [[1 2]]",
		"1 2 3; 0 1; 0 3":                      "{2 [[2 -1]]} [[1 3] [2 3]]",
		"0 1; 0 3; 1 2; 1 3; 2 3":              "{2 []} [[1 3] [2 3]]", // near ones first
		"0 3; 0 4; 2 4; 2 9; 3 7; 7 9":         "{1 []} [[2 9]]",       // 7 is reached ahead of 2
		hollow:                                 "{3 [[1] [2] [3] [1 3 -2]]} [[1 2] [1 3] [2 3]]",
		"0 1 2 3":                              "{3 [[1] [2] [3] [1 3 -2]]} [[1 2] [1 3] [2 3]]",
		moebius:                                "{6 [[1] [3] [6] [1 4 -2] [4 6 -5]]} [[1 2] [1 3] [1 4] [2 3] [2 4] [3 4]]",
		"10 11 12; 12 13; 13 14; 12 14; 99 10": "{2 [[1]]} [[11 12] [13 14]]",
	} {
		g, l, err := Fundamental(read(t, text))
		if got := fmt.Sprint(g, l); got != want || err != nil {
			t.Error(text, got, err)
		}
	}
}

// TestKnownFundamental: how many elements the groups of known shapes have.
func TestKnownFundamental(t *testing.T) {
	for text, want := range map[string]int{"3": 1, "0 1 2": 1, hollow: 1, plane: 2, "0 1 2 3 4 5": 1, "0 1 2 3; 3 4 5 6": 1} {
		g, _, err := Fundamental(read(t, text))
		if err != nil {
			t.Error(text, err)
		}
		if l, err := g.Cosets(nil); len(l) != want || err != nil {
			t.Error(text, len(l), err)
		}
	}
	for text, want := range map[string][3]int{circle: {1, 1, 1}, moebius: {1, 1, 1}, "0 1; 1 2; 0 2; 2 3; 3 4; 2 4": {1, 3, 13}} {
		g, _, err := Fundamental(read(t, text))
		for len(g.Relators) > 0 && err == nil {
			g, err = g.Without(max(g.Relators[0][0], -g.Relators[0][0]), 0)
		}
		if err != nil {
			t.Error(text, err)
		}
		for i, n := range want {
			if l, err := g.Subgroups(i + 1); len(l) != n || err != nil {
				t.Error(text, i+1, len(l), err)
			}
		}
	}
}

func TestWrongComplexes(t *testing.T) {
	for name, c := range map[string]struct {
		facets [][]int
		want   error
	}{
		"none":                        {nil, api.ErrNone},
		"an empty list":               {[][]int{}, api.ErrNone},
		"an empty face":               {[][]int{{}}, api.ErrFace},
		"no vertex":                   {[][]int{{0, 100}}, api.ErrFace},
		"a vertex below 0":            {[][]int{{-1, 0}}, api.ErrFace},
		"too many dimensions":         {[][]int{{0, 1, 2, 3, 4, 5, 6, 7}}, api.ErrBound},
		"not in order":                {[][]int{{1, 2}, {0, 1}}, api.ErrShape},
		"two points":                  {[][]int{{0}, {1}}, api.ErrShape},
		"an edge and a point":         {[][]int{{0}, {1, 2}}, api.ErrShape},
		"two circles":                 {made([][]int{{0, 1}, {1, 2}, {0, 2}, {3, 4}, {4, 5}, {3, 5}}).Facets, api.ErrShape},
		"twelve generators":           {made(bundle(13)).Facets, nil},
		"thirteen generators":         {made(bundle(14)).Facets, api.ErrBound},
		"thirteen, and a point apart": {made(append(bundle(14), []int{99})).Facets, api.ErrShape},
		"ten of a simplex":            {[][]int{{0, 1, 2, 3, 4, 5}}, nil},
		"fifteen of a simplex":        {[][]int{{0, 1, 2, 3, 4, 5, 6}}, api.ErrBound},
		"a torus":                     {read(t, torus).Facets, api.ErrBound},
		"hundreds of edges":           {made(bundle(98)).Facets, api.ErrBound},
	} {
		g, l, err := Fundamental(cells.Complex{Facets: c.facets})
		if err != c.want {
			t.Error(name, err, c.want)
		}
		if err != nil && (!reflect.DeepEqual(g, Group{}) || len(l) > 0) {
			t.Error(name, "answers beside an error", g, l)
		}
	}
}

// plainFundamental: by asking for each pair of vertices whether it is an edge; nil, if not all are reached.
func plainFundamental(c cells.Complex) (Group, [][2]int, bool) {
	var vertices [][]int
	tree, letter := map[[2]int]bool{}, map[[2]int]int{}
	var waiting []int
	reached := map[int]bool{}
	for v := range 100 {
		if ok, _ := cells.Has(c, []int{v}); ok {
			vertices = append(vertices, []int{v})
			if len(waiting) == 0 {
				waiting, reached[v] = []int{v}, true
			}
		}
	}
	for len(waiting) > 0 {
		v := waiting[0]
		waiting = waiting[1:]
		for w := range 100 {
			pair := [2]int{min(v, w), max(v, w)}
			if ok, _ := cells.Has(c, pair[:]); ok && !reached[w] {
				reached[w], tree[pair] = true, true
				waiting = append(waiting, w)
			}
		}
	}
	var g Group
	var out [][2]int
	list, _ := cells.Faces(c, 1)
	for _, e := range list {
		if pair := [2]int(e); !tree[pair] {
			out = append(out, pair)
			g.Generators++
			letter[pair] = g.Generators
		}
	}
	list, _ = cells.Faces(c, 2)
	for _, f := range list {
		var word []int
		for _, l := range []int{letter[[2]int{f[0], f[1]}], letter[[2]int{f[1], f[2]}], -letter[[2]int{f[0], f[2]}]} {
			if l != 0 {
				word = append(word, l)
			}
		}
		if word = plainReduce(word); len(word) > 0 {
			g.Relators = append(g.Relators, word)
		}
	}
	return g, out, len(reached) == len(vertices)
}

// TestFundamentalAgainstPlain: and its abelian group is the homology of dimension 1.
func TestFundamentalAgainstPlain(t *testing.T) {
	r := rand.New(rand.NewSource(92))
	told := map[error]int{}
	for range 700 {
		var sets [][]int
		names := r.Perm(100)
		n := 3 + r.Intn(6)
		for range 2 + r.Intn(12) {
			set := r.Perm(n)[:1+r.Intn(3)]
			if r.Intn(9) == 0 {
				set = r.Perm(n)[:min(n, 4)]
			}
			for i := range set {
				set[i] = names[set[i]]
			}
			sets = append(sets, set)
		}
		c := made(sets)
		want, edges, ok := plainFundamental(c)
		g, l, err := Fundamental(c)
		told[err]++
		if !ok || want.Valid() != nil {
			if !ok && err != api.ErrShape || ok && err != api.ErrBound {
				t.Error(c, err)
			}
			continue
		}
		if err != nil || fmt.Sprint(g) != fmt.Sprint(want) || !slices.Equal(l, edges) {
			t.Error(c, g, l, want, edges, err)
			continue
		}
		askHomology(t, c, g)
	}
	if told[nil] < 200 || told[api.ErrShape] < 50 {
		t.Error("the shapes are of too few kinds", told)
	}
}

func askHomology(t *testing.T, c cells.Complex, g Group) {
	t.Helper()
	chain, err := homology.Complex(c)
	if err != nil {
		t.Fatal(err)
	}
	groups, err := homology.Of(chain)
	if err != nil {
		t.Fatal(err)
	}
	want := "{0 []}" // of a point
	if len(groups) > 1 {
		want = fmt.Sprint(groups[1])
	}
	if a, err := g.Abelian(); fmt.Sprint(a) != want || err != nil {
		t.Error(c, a, want, err)
	}
}

func TestFundamentalSharesNothing(t *testing.T) {
	c := read(t, plane)
	told := fmt.Sprint(c)
	g, l, _ := Fundamental(c)
	before := fmt.Sprint(g, l)
	for i := range g.Relators {
		_ = append(g.Relators[i], 77)
	}
	if fmt.Sprint(c) != told || fmt.Sprint(g, l) != before {
		t.Error(c, g, l)
	}
	for _, f := range c.Facets {
		clear(f)
	}
	if fmt.Sprint(g, l) != before {
		t.Error("shares memory", g, l)
	}
	clear(l)
	clear(g.Relators)
	h, m, err := Fundamental(read(t, plane))
	if fmt.Sprint(h, m) != before || err != nil {
		t.Error("not the same twice", h, m, err)
	}
}
