package index

import (
	"errors"
	"fmt"
	"math/rand"
	"slices"
	"testing"

	"handlebody/api"
	"handlebody/cells"
)

// What the program answers is held against the document's words, taken as they stand.

const (
	circle  = "0 1; 0 2; 1 2"
	six     = "0 1; 1 2; 2 3; 3 4; 4 5; 0 5"
	twelve  = "0 1; 1 2; 2 3; 3 4; 4 5; 5 6; 6 7; 7 8; 8 9; 9 10; 10 11; 0 11"
	sphere  = "0 1 2; 0 1 3; 0 2 3; 1 2 3"
	octa    = "0 1 2; 0 1 4; 0 2 5; 0 4 5; 1 2 3; 1 3 4; 2 3 5; 3 4 5"
	torus   = "0 1 3; 1 2 4; 2 3 5; 3 4 6; 4 5 0; 5 6 1; 6 0 2; 0 2 3; 1 3 4; 2 4 5; 3 5 6; 4 6 0; 5 0 1; 6 1 2"
	plane   = "0 1 2; 0 2 3; 0 3 4; 0 4 5; 0 1 5; 1 2 4; 2 3 5; 1 3 4; 2 4 5; 1 3 5"
	moebius = "0 1 2; 1 2 3; 2 3 4; 0 3 4; 0 1 4"
	solid   = "0 1 2 3; 0 1 2 4; 0 1 3 4; 0 2 3 4; 1 2 3 4" // the sphere of dimension 3
)

func read(t *testing.T, text string) cells.Complex {
	t.Helper()
	c, err := cells.Read(text)
	if err != nil {
		t.Fatal(text, err)
	}
	return c
}

func made(t *testing.T, sets [][]int) cells.Complex {
	t.Helper()
	c, err := cells.Make(sets)
	if err != nil {
		t.Fatal(sets, err)
	}
	return c
}

func facets(l ...[]int) cells.Complex { return cells.Complex{Facets: l} }

// facesOf all dimensions, by dimension, those of one in order.
func facesOf(t *testing.T, c cells.Complex) [][]int {
	t.Helper()
	var out [][]int
	for dim := range api.MaxDim + 1 {
		l, err := cells.Faces(c, dim)
		if err != nil {
			t.Fatal(c, err)
		}
		out = append(out, l...)
	}
	return out
}

func verticesOf(t *testing.T, c cells.Complex) []int {
	t.Helper()
	var out []int
	for _, f := range facesOf(t, c) {
		if len(f) == 1 {
			out = append(out, f[0])
		}
	}
	return out
}

func eulerOf(t *testing.T, c cells.Complex) int {
	t.Helper()
	n, err := cells.Euler(c)
	if err != nil {
		t.Fatal(c, err)
	}
	return n
}

// bare: the very error, not one that wraps it.
func bare(t *testing.T, got, want error, what ...any) {
	t.Helper()
	var f *api.Fault
	if got != want || errors.As(got, &f) {
		t.Error(append([]any{"got", got, "want", want, "of"}, what...)...)
	}
}

// told: a fault at that place.
func told(t *testing.T, got, want error, at int, what ...any) {
	t.Helper()
	f, ok := got.(*api.Fault)
	if !ok || f.At != at || f.Err != want {
		t.Error(append([]any{"got", got, f, "want", want, at, "of"}, what...)...)
	}
}

// plainIndices: of each vertex's link, as it is asked of cells, the part that is lower.
func plainIndices(t *testing.T, c cells.Complex, h []int) []int {
	t.Helper()
	vertices := verticesOf(t, c)
	var out []int
	for i, v := range vertices {
		link, err := cells.Link(c, []int{v})
		if err != nil {
			t.Fatal(c, v, err)
		}
		var lower [][]int
		for _, f := range facesOf(t, link) {
			if !slices.ContainsFunc(f, func(u int) bool { return h[slices.Index(vertices, u)] > h[i] }) {
				lower = append(lower, f)
			}
		}
		out = append(out, 1-eulerOf(t, made(t, lower)))
	}
	return out
}

// imagesOf a face's vertices, in their order.
func imagesOf(vertices, f, face []int) []int {
	var out []int
	for _, v := range face {
		out = append(out, f[slices.Index(vertices, v)])
	}
	return out
}

func isFaceOf(c cells.Complex, set []int) bool {
	return slices.ContainsFunc(c.Facets, func(facet []int) bool {
		return !slices.ContainsFunc(set, func(v int) bool { return !slices.Contains(facet, v) })
	})
}

// plainCheck of a list that is long enough: the error of a place, and that.
func plainCheck(t *testing.T, a, b cells.Complex, f []int) (error, int) {
	t.Helper()
	vertices := verticesOf(t, a)
	for i, v := range f {
		if !isFaceOf(b, []int{v}) {
			return api.ErrFace, i
		}
	}
	for i, face := range facesOf(t, a) {
		if !isFaceOf(b, imagesOf(vertices, f, face)) {
			return api.ErrOrder, i
		}
	}
	return nil, 0
}

// swaps sorts a list by changes of two that stand beside each other, each of which turns the sign; 0: two are alike.
func swaps(l []int) int {
	l = slices.Clone(l)
	out := 1
	for !slices.IsSorted(l) {
		for i := 1; i < len(l); i++ {
			if l[i] < l[i-1] {
				l[i], l[i-1] = l[i-1], l[i]
				out = -out
			}
		}
	}
	for i := 1; i < len(l); i++ {
		if l[i] == l[i-1] {
			return 0
		}
	}
	return out
}

// plainSign with which a face comes onto another one; 0: it does not.
func plainSign(images, goal []int) int {
	if !slices.Equal(slices.Sorted(slices.Values(images)), goal) {
		return 0
	}
	return swaps(images)
}

// plainFixed faces, and the sum of their signs, for odd dimensions negated.
func plainFixed(t *testing.T, c cells.Complex, f []int) ([][]int, int) {
	t.Helper()
	vertices := verticesOf(t, c)
	var out [][]int
	sum := 0
	for _, face := range facesOf(t, c) {
		sign := plainSign(imagesOf(vertices, f, face), face)
		if sign == 0 {
			continue
		}
		out = append(out, face)
		if len(face)%2 == 0 {
			sign = -sign
		}
		sum += sign
	}
	return out, sum
}

// someVertices, which need not follow each other.
func someVertices(r *rand.Rand, n int) []int {
	if r.Intn(2) == 0 {
		return r.Perm(n)
	}
	return r.Perm(api.MaxVertex + 1)[:n]
}

// someComplex of many kinds, of at most so many faces.
func someComplex(t *testing.T, r *rand.Rand, most int) cells.Complex {
	t.Helper()
	vertices := someVertices(r, 1+r.Intn(9))
	size := 2 + r.Intn(4)
	var sets [][]int
	var out cells.Complex
	for range 1 + r.Intn(14) {
		var set []int
		for _, i := range r.Perm(len(vertices))[:min(1+r.Intn(size), len(vertices))] {
			set = append(set, vertices[i])
		}
		sets = append(sets, set)
		next := made(t, sets)
		if len(facesOf(t, next)) > most {
			break
		}
		out = next
	}
	return out
}

// someHeights, no two alike.
func someHeights(t *testing.T, r *rand.Rand, c cells.Complex) []int {
	t.Helper()
	n := len(verticesOf(t, c))
	reach := []int{n/2 + 1, 50, api.MaxEntry}[r.Intn(3)]
	var out []int
	for len(out) < n {
		if h := r.Intn(2*reach+1) - reach; !slices.Contains(out, h) {
			out = append(out, h)
		}
	}
	return out
}

// renamed: the vertices given anew, at random.
func renamed(t *testing.T, r *rand.Rand, c cells.Complex) cells.Complex {
	t.Helper()
	names := r.Perm(api.MaxVertex + 1)
	var sets [][]int
	for _, f := range c.Facets {
		var set []int
		for _, v := range f {
			set = append(set, names[v])
		}
		sets = append(sets, set)
	}
	return made(t, sets)
}

// someMap of a complex into another one, by trying; nil: too many were tried.
func someMap(t *testing.T, r *rand.Rand, a, b cells.Complex) []int {
	t.Helper()
	vertices, goals := verticesOf(t, a), verticesOf(t, b)
	all := facesOf(t, a)
	f := make([]int, len(vertices))
	tries := 0
	fits := func(upTo int) bool {
		for _, face := range all {
			in := slices.DeleteFunc(slices.Clone(face), func(v int) bool { return slices.Index(vertices, v) > upTo })
			if slices.Contains(face, vertices[upTo]) && !isFaceOf(b, imagesOf(vertices, f, in)) {
				return false
			}
		}
		return true
	}
	var fill func(i int) bool
	fill = func(i int) bool {
		if i == len(f) {
			return true
		}
		for _, k := range r.Perm(len(goals)) {
			f[i] = goals[k]
			tries++
			if tries > 2000 {
				return false
			}
			if fits(i) && fill(i+1) {
				return true
			}
		}
		return false
	}
	if !fill(0) {
		return nil
	}
	return f
}

// behind: first one map, then the other one.
func behind(t *testing.T, b cells.Complex, f, g []int) []int {
	t.Helper()
	return imagesOf(verticesOf(t, b), g, f)
}

func degreeOf(t *testing.T, a, b cells.Complex, f []int) int {
	t.Helper()
	n, err := Degree(a, b, f)
	if err != nil {
		t.Fatal(a, b, f, err)
	}
	return n
}

func fixedOf(t *testing.T, c cells.Complex, f []int) ([][]int, int) {
	t.Helper()
	l, err := Fixed(c, f)
	n, bad := Lefschetz(c, f)
	if err != nil || bad != nil {
		t.Fatal(c, f, err, bad)
	}
	return l, n
}

func indicesOf(t *testing.T, c cells.Complex, h []int) []int {
	t.Helper()
	l, err := Indices(c, h)
	if err != nil {
		t.Fatal(c, h, err)
	}
	return l
}

func sumOf(l []int) int {
	out := 0
	for _, n := range l {
		out += n
	}
	return out
}

func rising(n int) []int {
	out := make([]int, n)
	for i := range out {
		out[i] = i
	}
	return out
}

// edgesOfAll of so many vertices.
func edgesOfAll(vertices int) [][]int {
	var out [][]int
	for a := range vertices {
		for b := a + 1; b < vertices; b++ {
			out = append(out, []int{a, b})
		}
	}
	return out
}

// unchanged: a call leaves what it is given as it is, also behind a list's length.
func unchanged(t *testing.T, l []int, c cells.Complex, call func(l []int, c cells.Complex)) {
	t.Helper()
	room := append(slices.Clone(l), 77, 78)
	wide := cells.Complex{}
	for _, f := range c.Facets {
		wide.Facets = append(wide.Facets, append(slices.Clone(f), 79)[:len(f)])
	}
	look := func() string {
		text := fmt.Sprint(room)
		for _, f := range wide.Facets {
			text += fmt.Sprint(f[:len(f)+1])
		}
		return text
	}
	before := look()
	call(room[:len(l)], wide)
	if look() != before {
		t.Error("changed", look(), before)
	}
}
