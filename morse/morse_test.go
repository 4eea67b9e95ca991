package morse

import (
	"errors"
	"fmt"
	"math"
	"math/rand"
	"slices"
	"strings"
	"testing"

	"handlebody/api"
	"handlebody/cells"
	"handlebody/plain"
	"handlebody/smith"
	"handlebody/whole"
)

const (
	circle  = "0 1; 0 2; 1 2" // 0, 1, 2; 3: 0 1, 4: 0 2, 5: 1 2
	kite    = "0 1 2; 2 3"    // 0 to 3; 4: 0 1, 5: 0 2, 6: 1 2, 7: 2 3; 8: 0 1 2
	annulus = "0 1 3; 1 3 4; 1 2 4; 2 4 5; 0 2 5; 0 3 5"
	sphere  = "0 1 2; 0 1 3; 0 2 3; 1 2 3"
	torus   = "0 1 3; 1 2 4; 2 3 5; 3 4 6; 0 4 5; 1 5 6; 0 2 6; 0 2 3; 1 3 4; 2 4 5; 3 5 6; 0 4 6; 0 1 5; 1 2 6"
	plane   = "0 1 2; 0 2 3; 0 3 4; 0 4 5; 0 1 5; 1 2 4; 2 3 5; 1 3 4; 2 4 5; 1 3 5"
	moebius = "0 1 2; 1 2 3; 2 3 4; 0 3 4; 0 1 4"
	dunce   = "0 1 3; 0 1 6; 0 1 7; 0 2 3; 0 2 4; 0 2 5; 0 4 5; 0 6 7; 1 2 4; 1 2 6; 1 2 7; 1 3 4; 2 3 7; 2 5 6; 3 4 5; 3 5 7; 5 6 7" // a point in kind, but no face is free
)

// shapes of many kinds, by their texts.
func shapes() []string {
	return []string{"", "7", "0; 1", "0; 5; 99", "0 1", circle, "0 1; 0 2; 1 2; 3", kite, "0 1 2; 2 3; 3 4 5", annulus, sphere, torus, plane, moebius, dunce,
		"0 1 2 3", "0 1 2 3; 2 3 4; 4 5; 5 6; 4 6", "0 1 2 3 4 5 6", "0 1 2 3; 0 1 2 4; 0 1 3 4; 0 2 3 4; 1 2 3 4"}
}

func read(t *testing.T, text string) cells.Complex {
	t.Helper()
	c, err := cells.Read(text)
	if err != nil {
		t.Fatal(text, err)
	}
	return c
}

// random complex of so many vertices at most.
func random(r *rand.Rand, vertices, sets, size int) cells.Complex {
	var l [][]int
	for range r.Intn(sets + 1) {
		l = append(l, r.Perm(vertices)[:1+r.Intn(size)])
	}
	c, _ := cells.Make(l)
	return c
}

// listed: all faces by their numbers, told from the facets alone.
func listed(c cells.Complex) [][]int {
	seen := map[string]bool{}
	var out [][]int
	for _, facet := range c.Facets {
		for bits := 1; bits < 1<<len(facet); bits++ {
			var face []int
			for i, v := range facet {
				if bits>>i&1 == 1 {
					face = append(face, v)
				}
			}
			if key := fmt.Sprint(face); !seen[key] {
				seen[key] = true
				out = append(out, face)
			}
		}
	}
	slices.SortFunc(out, func(a, b []int) int {
		if len(a) != len(b) {
			return len(a) - len(b)
		}
		return slices.Compare(a, b)
	})
	return out
}

// within another face, as a part of it that is less.
func within(part, face []int) bool {
	return len(part) < len(face) && !slices.ContainsFunc(part, func(v int) bool { return !slices.Contains(face, v) })
}

// isSide: a part with one vertex less; numbers that are none are no sides.
func isSide(faces [][]int, low, high int) bool {
	return low >= 0 && high >= 0 && low < len(faces) && high < len(faces) && len(faces[low])+1 == len(faces[high]) && within(faces[low], faces[high])
}

// signOf a side, as P25 tells it.
func signOf(part, face []int) int {
	for i := range face {
		if slices.Equal(part, slices.Delete(slices.Clone(face), i, i+1)) {
			return 1 - 2*(i%2)
		}
	}
	return 0
}

// greater faces that have one as a part, of those that are not gone.
func greater(faces [][]int, gone map[int]bool, face int) []int {
	var out []int
	for i := range faces {
		if !gone[i] && within(faces[face], faces[i]) {
			out = append(out, i)
		}
	}
	return out
}

// freeByCounting all greater faces, of every dimension.
func freeByCounting(faces [][]int) [][2]int {
	var out [][2]int
	for i := range faces {
		if l := greater(faces, nil, i); len(l) == 1 {
			out = append(out, [2]int{i, l[0]})
		}
	}
	return out
}

// collapsed by counting: the facets that are left, or the place of the first pair that is not free.
func collapsed(faces [][]int, pairs [][2]int) (facets [][]int, at int) {
	gone := map[int]bool{}
	for i, p := range pairs {
		if p[0] < 0 || p[0] >= len(faces) || gone[p[0]] || !slices.Equal(greater(faces, gone, p[0]), []int{p[1]}) {
			return nil, i
		}
		gone[p[0]], gone[p[1]] = true, true
	}
	for i, face := range faces {
		if !gone[i] && len(greater(faces, gone, i)) == 0 {
			facets = append(facets, face)
		}
	}
	slices.SortFunc(facets, slices.Compare[[]int])
	return facets, -1
}

// checked another way: pairs that lead to no other one are struck, over and over; those of a circle stay.
func checked(faces [][]int, g [][2]int) (code, at int) {
	used := map[int]bool{}
	for i, p := range g {
		if !isSide(faces, p[0], p[1]) || used[p[0]] || used[p[1]] {
			return 4, i
		}
		used[p[0]], used[p[1]] = true, true
	}
	left := slices.Clone(g)
	for {
		next := slices.DeleteFunc(slices.Clone(left), func(p [2]int) bool {
			return !slices.ContainsFunc(left, func(q [2]int) bool { return q != p && isSide(faces, q[0], p[1]) })
		})
		if len(next) == len(left) {
			break
		}
		left = next
	}
	if len(left) > 0 {
		return 7, 0
	}
	return 0, -1
}

func allPairs(faces [][]int) [][2]int {
	var out [][2]int
	for low := range faces {
		for high := range faces {
			if isSide(faces, low, high) {
				out = append(out, [2]int{low, high})
			}
		}
	}
	return out
}

// randomField: pairs in any order, each taken if no circle comes of it, as many as are wanted.
func randomField(r *rand.Rand, faces [][]int, most int) [][2]int {
	pairs := allPairs(faces)
	r.Shuffle(len(pairs), func(i, k int) { pairs[i], pairs[k] = pairs[k], pairs[i] })
	var g [][2]int
	for _, p := range pairs {
		if code, _ := checked(faces, append(slices.Clone(g), p)); code == 0 && len(g) < most {
			g = append(g, p)
		}
	}
	return g
}

func criticalOf(faces [][]int, g [][2]int, vertices int) []int {
	var out []int
	for i, face := range faces {
		if len(face) == vertices && !slices.ContainsFunc(g, func(p [2]int) bool { return p[0] == i || p[1] == i }) {
			out = append(out, i)
		}
	}
	return out
}

// walked: a boundary by going along each path alone, to its end.
func walked(faces [][]int, g [][2]int, dim int) smith.Matrix {
	rows, cols := criticalOf(faces, g, dim), criticalOf(faces, g, dim+1)
	m := smith.Matrix{Rows: len(rows), Cols: len(cols), L: make([]int, len(rows)*len(cols))}
	for k, col := range cols {
		var walk func(face, but, sign int)
		walk = func(face, but, sign int) {
			for a := range faces {
				if a == but || !isSide(faces, a, face) {
					continue
				}
				now := sign * signOf(faces[a], faces[face])
				if i := slices.Index(rows, a); i >= 0 {
					m.L[i*len(cols)+k] += now
				}
				for _, p := range g {
					if p[0] == a {
						walk(p[1], a, -now*signOf(faces[a], faces[p[1]]))
					}
				}
			}
		}
		walk(col, -1, 1)
	}
	return m
}

func same(a, b smith.Matrix) bool {
	return a.Rows == b.Rows && a.Cols == b.Cols && slices.Equal(a.L, b.L)
}

func TestFree(t *testing.T) {
	for text, want := range map[string]string{
		"":                  "[]",
		"5":                 "[]",
		"0; 1":              "[]",
		"0 1":               "[[0 2] [1 2]]",
		circle:              "[]",
		kite:                "[[3 7] [4 8] [5 8] [6 8]]",
		"0 1 2":             "[[3 6] [4 6] [5 6]]",
		"0 1 2; 1 2 3":      "[[4 9] [5 9] [7 10] [8 10]]",
		"0 1 2 3":           "[[10 14] [11 14] [12 14] [13 14]]",
		"0 1; 0 2; 0 3":     "[[1 4] [2 5] [3 6]]",
		"10 20; 20 30; 5 7": "[[0 5] [1 5] [2 6] [4 7]]",
		sphere:              "[]",
		torus:               "[]",
		plane:               "[]",
		dunce:               "[]",
	} {
		l, err := Free(read(t, text))
		if got := fmt.Sprint(l); got != want || err != nil {
			t.Error(text, got, err)
		}
	}
}

func TestFreeByCounting(t *testing.T) {
	r := rand.New(rand.NewSource(40))
	for range 400 {
		c := random(r, 7, 6, 5)
		l, err := Free(c)
		if want := freeByCounting(listed(c)); !slices.Equal(l, want) || err != nil {
			t.Error(c, l, want, err)
		}
	}
}

func TestCollapse(t *testing.T) {
	for _, x := range []struct {
		text  string
		pairs [][2]int
		want  string
	}{
		{"", nil, "{[]} 0 -1"},
		{"", [][2]int{{0, 0}}, "{[]} 4 0"},
		{"5", [][2]int{}, "{[[5]]} 0 -1"},
		{"5", [][2]int{{0, 1}}, "{[]} 4 0"},
		{"0; 1", [][2]int{{0, 1}}, "{[]} 4 0"},
		{kite, nil, "{[[0 1 2] [2 3]]} 0 -1"},
		{kite, [][2]int{{3, 7}}, "{[[0 1 2]]} 0 -1"},
		{kite, [][2]int{{5, 8}}, "{[[0 1] [1 2] [2 3]]} 0 -1"},
		{kite, [][2]int{{4, 8}, {3, 7}}, "{[[0 2] [1 2]]} 0 -1"},
		{kite, [][2]int{{3, 7}, {4, 8}, {0, 5}, {1, 6}}, "{[[2]]} 0 -1"},
		{kite, [][2]int{{4, 8}, {0, 5}, {1, 6}, {2, 7}}, "{[[3]]} 0 -1"},
		{kite, [][2]int{{4, 8}, {0, 5}, {1, 6}, {2, 7}, {3, 7}}, "{[]} 4 4"},
		{kite, [][2]int{{8, 4}}, "{[]} 4 0"},                  // the other way round
		{kite, [][2]int{{0, 8}}, "{[]} 4 0"},                  // two vertices more
		{kite, [][2]int{{2, 7}}, "{[]} 4 0"},                  // not free
		{kite, [][2]int{{4, 7}}, "{[]} 4 0"},                  // free, but in another one
		{kite, [][2]int{{3, 3}}, "{[]} 4 0"},                  // one number
		{kite, [][2]int{{3, 7}, {3, 7}}, "{[]} 4 1"},          // away
		{kite, [][2]int{{3, 7}, {2, 7}}, "{[]} 4 1"},          // the second one is away
		{kite, [][2]int{{4, 8}, {5, 8}}, "{[]} 4 1"},          // the second one is away
		{kite, [][2]int{{4, 8}, {4, 8}, {-1, 8}}, "{[]} 4 1"}, // the first that is wrong
		{kite, [][2]int{{4, 8}, {3, 7}, {2, 5}}, "{[]} 4 2"},
		{kite, [][2]int{{4, 8}, {3, 7}, {0, 9}}, "{[]} 4 2"},
		{kite, [][2]int{{-1, 0}}, "{[]} 4 0"},
		{kite, [][2]int{{3, -7}}, "{[]} 4 0"},
		{kite, [][2]int{{9, 10}}, "{[]} 4 0"},
		{kite, [][2]int{{math.MinInt, math.MaxInt}}, "{[]} 4 0"},
		{kite, [][2]int{{math.MaxInt, math.MinInt}}, "{[]} 4 0"},
		{"10 20 30; 30 99", [][2]int{{6, 8}}, "{[[10 20] [10 30] [30 99]]} 0 -1"},
	} {
		c, err := Collapse(read(t, x.text), x.pairs)
		code, at := plain.Code(err)
		if got := fmt.Sprint(c, code, at); got != x.want {
			t.Error(x, got)
		}
	}
}

func TestCollapseByCounting(t *testing.T) {
	r := rand.New(rand.NewSource(41))
	wrong, most := 0, 0
	for range 1500 {
		c := random(r, 6, 5, 4)
		faces := listed(c)
		pairs := allPairs(faces)
		var l [][2]int
		for range r.Intn(12) {
			p := [2]int{r.Intn(len(faces)+2) - 1, r.Intn(len(faces)+2) - 1}
			if r.Intn(20) > 0 && len(pairs) > 0 { // mostly one that goes, if there is one
				for range 40 {
					p = pairs[r.Intn(len(pairs))]
					if _, at := collapsed(faces, append(slices.Clone(l), p)); at < 0 {
						break
					}
				}
			}
			l = append(l, p)
		}
		facets, place := collapsed(faces, l)
		d, err := Collapse(c, l)
		code, at := plain.Code(err)
		if at != place || (code == 4) != (place >= 0) || !slices.EqualFunc(d.Facets, facets, slices.Equal[[]int]) {
			t.Error(c, l, d, err, facets, place)
		}
		if place < 0 {
			most = max(most, len(l))
		} else {
			wrong++
		}
	}
	if wrong < 100 || most < 8 {
		t.Error("too much alike:", wrong, most)
	}
}

func TestCheck(t *testing.T) {
	round := [][2]int{{0, 3}, {1, 5}, {2, 4}}
	for _, x := range []struct {
		text string
		g    [][2]int
		want string
	}{
		{"", nil, "0 -1"},
		{"", [][2]int{}, "0 -1"},
		{"", [][2]int{{0, 0}}, "4 0"},
		{"5", nil, "0 -1"},
		{"5", [][2]int{{0, 0}}, "4 0"},
		{"0 1", [][2]int{{0, 2}}, "0 -1"},
		{"0 1", [][2]int{{2, 0}}, "4 0"},
		{"0 1", [][2]int{{0, 1}}, "4 0"},
		{"0 1", [][2]int{{0, 2}, {1, 2}}, "4 1"},
		{"0 1", [][2]int{{0, 2}, {0, 2}}, "4 1"},
		{circle, [][2]int{{1, 3}, {2, 4}}, "0 -1"},
		{circle, round, "7 0"},
		{circle, [][2]int{{0, 4}, {2, 5}, {1, 3}}, "7 0"},
		{circle, append(slices.Clone(round), [2]int{0, 0}), "4 3"}, // a circle, but a wrong pair, too
		{circle, [][2]int{{0, 5}}, "4 0"},
		{circle, [][2]int{{1, 3}, {1, 5}}, "4 1"},
		{circle, [][2]int{{1, 3}, {-1, 5}, {1, 5}}, "4 1"},
		{circle, [][2]int{{1, 6}}, "4 0"},
		{circle, [][2]int{{6, 7}}, "4 0"},
		{circle, [][2]int{{1, -3}}, "4 0"},
		{circle, [][2]int{{math.MinInt, math.MinInt}}, "4 0"},
		{circle, [][2]int{{math.MaxInt, math.MaxInt}}, "4 0"},
		{kite, [][2]int{{0, 8}}, "4 0"}, // two vertices more
		{kite, [][2]int{{0, 4}, {4, 8}}, "4 1"},
		{kite, [][2]int{{4, 8}, {0, 4}}, "4 1"},
		{kite, [][2]int{{0, 4}, {1, 6}, {2, 5}}, "7 0"},
		{kite, [][2]int{{4, 8}, {0, 5}, {1, 6}, {2, 7}}, "0 -1"},
		{"0 1 2 3", [][2]int{{10, 14}, {4, 11}, {5, 12}, {7, 13}, {0, 6}, {1, 8}, {2, 9}}, "0 -1"},
	} {
		code, at := plain.Code(Check(read(t, x.text), x.g))
		if got := fmt.Sprint(code, " ", at); got != x.want {
			t.Error(x, got)
		}
	}
}

// A round of edges and triangles, once around: each edge between two triangles is paired with the next one.
func TestCheckRoundsOfGreaterFaces(t *testing.T) {
	for _, text := range []string{annulus, moebius} {
		c := read(t, text)
		faces := listed(c)
		find := func(face ...int) int {
			slices.Sort(face)
			return slices.IndexFunc(faces, func(f []int) bool { return slices.Equal(f, face) })
		}
		round := [][2]int{{find(0, 3), find(0, 1, 3)}, {find(1, 3), find(1, 3, 4)}, {find(1, 4), find(1, 2, 4)}, {find(2, 4), find(2, 4, 5)}, {find(2, 5), find(0, 2, 5)}, {find(0, 5), find(0, 3, 5)}}
		if text == moebius {
			round = [][2]int{{find(0, 1), find(0, 1, 2)}, {find(1, 2), find(1, 2, 3)}, {find(2, 3), find(2, 3, 4)}, {find(3, 4), find(0, 3, 4)}, {find(0, 4), find(0, 1, 4)}}
		}
		if code, at := plain.Code(Check(c, round)); code != 7 || at != 0 {
			t.Error(text, code, at)
		}
		for i := range round { // open at one place, it is none
			if err := Check(c, slices.Delete(slices.Clone(round), i, i+1)); err != nil {
				t.Error(text, i, err)
			}
		}
	}
}

// All lists of one or two pairs of numbers, also wrong ones; all of three that are sides of faces.
func TestCheckAllOfSmallOnes(t *testing.T) {
	for _, text := range []string{circle, "0 1 2", "0 1; 1 2; 3"} {
		c := read(t, text)
		faces := listed(c)
		ask := func(g ...[2]int) {
			code, at := checked(faces, g)
			if gotCode, gotAt := plain.Code(Check(c, g)); gotCode != code || gotAt != at {
				t.Error(text, g, gotCode, gotAt, code, at)
			}
		}
		side := len(faces) + 2
		for i := range side * side {
			first := [2]int{i/side - 1, i%side - 1}
			ask(first)
			for k := range side * side {
				ask(first, [2]int{k/side - 1, k%side - 1})
			}
		}
		pairs := allPairs(faces)
		for _, a := range pairs {
			for _, b := range pairs {
				for _, d := range pairs {
					ask(a, b, d)
				}
			}
		}
	}
}

func TestCheckByStriking(t *testing.T) {
	r := rand.New(rand.NewSource(42))
	seen := map[int]int{}
	for range 600 {
		c := random(r, 7, 7, 4)
		faces := listed(c)
		pairs := allPairs(faces)
		r.Shuffle(len(pairs), func(i, k int) { pairs[i], pairs[k] = pairs[k], pairs[i] })
		var g [][2]int
		for _, p := range pairs { // circles may come of these
			if code, _ := checked(faces, append(slices.Clone(g), p)); code != 4 || r.Intn(400) == 0 {
				g = append(g, p)
			}
		}
		code, at := checked(faces, g)
		seen[code]++
		if gotCode, gotAt := plain.Code(Check(c, g)); gotCode != code || gotAt != at {
			t.Error(c, g, gotCode, gotAt, code, at)
		}
	}
	if seen[0] < 30 || seen[4] < 30 || seen[7] < 30 {
		t.Error("too much alike:", seen)
	}
}

func TestCritical(t *testing.T) {
	for _, x := range []struct {
		text string
		g    [][2]int
		want string
	}{
		{"", nil, "[]"},
		{"5", nil, "[0]"},
		{"0 1", [][2]int{{1, 2}}, "[0]"},
		{circle, nil, "[0 1 2 3 4 5]"},
		{circle, [][2]int{{2, 4}, {1, 3}}, "[0 5]"},
		{kite, [][2]int{{4, 8}}, "[0 1 2 3 5 6 7]"},
		{kite, [][2]int{{2, 7}, {1, 6}, {0, 5}, {4, 8}}, "[3]"},
	} {
		l, err := Critical(read(t, x.text), x.g)
		if got := fmt.Sprint(l); got != x.want || err != nil {
			t.Error(x, got, err)
		}
	}
	r := rand.New(rand.NewSource(43))
	for range 200 {
		c := random(r, 6, 6, 4)
		faces := listed(c)
		g := randomField(r, faces, r.Intn(20))
		var want []int
		for vertices := range 8 {
			want = append(want, criticalOf(faces, g, vertices)...)
		}
		if l, err := Critical(c, g); !slices.Equal(l, want) || err != nil {
			t.Error(c, g, l, want, err)
		}
	}
}

func TestBoundary(t *testing.T) {
	for _, x := range []struct {
		text string
		g    [][2]int
		dim  int
		want string
	}{
		{"", nil, 0, "{0 0 []}"},
		{"", nil, 7, "{0 0 []}"},
		{"5", nil, 0, "{0 1 []}"},
		{"5", nil, 1, "{1 0 []}"},
		{"5", nil, 2, "{0 0 []}"},
		{circle, nil, 1, "{3 3 [-1 -1 0 1 0 -1 0 1 1]}"},
		{circle, [][2]int{{1, 3}}, 1, "{2 2 [-1 -1 1 1]}"},
		{circle, [][2]int{{0, 3}}, 1, "{2 2 [-1 -1 1 1]}"},
		{circle, [][2]int{{1, 5}}, 1, "{2 2 [-1 -1 1 1]}"},
		{circle, [][2]int{{2, 4}, {1, 5}}, 1, "{1 1 [0]}"},
		{circle, [][2]int{{1, 3}, {2, 4}}, 0, "{0 1 []}"},
		{circle, [][2]int{{1, 3}, {2, 4}}, 1, "{1 1 [0]}"},
		{circle, [][2]int{{1, 3}, {2, 4}}, 2, "{1 0 []}"},
		{circle, [][2]int{{1, 3}, {2, 4}}, 7, "{0 0 []}"},
		{kite, [][2]int{{4, 8}}, 2, "{3 0 []}"},
		{kite, [][2]int{{1, 4}, {2, 5}}, 2, "{2 1 [1 0]}"},         // 1 2 and 2 3 are left
		{"0 1 2; 1 2 3", [][2]int{{6, 9}}, 2, "{4 1 [-1 1 -1 1]}"}, // by 1 2, whose triangle is 0 1 2
		{"0 1 2; 1 2 3", [][2]int{{6, 10}}, 2, "{4 1 [1 -1 1 -1]}"},
		{"0 1 2 3 4 5 6", nil, 6, "{7 1 [1 -1 1 -1 1 -1 1]}"}, // rows rise: the last vertex is left out first
		{"0 1 2 3 4 5 6", nil, 7, "{1 0 []}"},
	} {
		m, err := Boundary(read(t, x.text), x.g, x.dim)
		if got := fmt.Sprint(m); got != x.want || err != nil {
			t.Error(x, got, err)
		}
	}
}

func TestBoundaryOfNoGradientIsThatOfCells(t *testing.T) {
	for _, text := range shapes() {
		c := read(t, text)
		for dim := range api.MaxDim + 2 {
			m, err := Boundary(c, nil, dim)
			if want, _ := cells.Boundary(c, dim); !same(m, want) || err != nil {
				t.Error(text, dim, m, want, err)
			}
		}
	}
}

func TestBoundaryByWalking(t *testing.T) {
	r := rand.New(rand.NewSource(44))
	values := map[int]int{}
	ask := func(c cells.Complex, g [][2]int) {
		t.Helper()
		faces := listed(c)
		for dim := range api.MaxDim + 2 {
			m, err := Boundary(c, g, dim)
			if want := walked(faces, g, dim); !same(m, want) || err != nil {
				t.Error(c, g, dim, m, want, err)
			}
			for _, x := range m.L {
				values[x]++
			}
		}
	}
	for range 150 {
		c := random(r, 6, 8, 4)
		ask(c, randomField(r, listed(c), r.Intn(30)))
	}
	for _, text := range []string{plane, torus, moebius, annulus, sphere, dunce} {
		c := read(t, text)
		for range 3 {
			ask(c, randomField(r, listed(c), 99))
		}
	}
	if values[-1] == 0 || values[0] == 0 || values[1] == 0 || values[-2]+values[2] == 0 {
		t.Error("too much alike:", values)
	}
}

// tower over the circle 0 1 2: so many circles one behind the other, each of which is glued twice around the next one by nine triangles. Its circles' vertices are from a number on.
func tower(from, doubles int) [][]int {
	out := [][]int{}
	a := [3]int{0, 1, 2}
	for range doubles {
		b := [3]int{from, from + 1, from + 2}
		for i := range 3 {
			out = append(out, []int{a[i], b[2*i%3], b[(2*i+1)%3]}, []int{a[i], b[(2*i+1)%3], b[(2*i+2)%3]}, []int{a[i], a[(i+1)%3], b[(2*i+2)%3]})
		}
		a, from = b, from+3
	}
	return out
}

func TestBoundaryAtItsBound(t *testing.T) {
	for doubles := range 25 {
		c, err := cells.Make(append(tower(3, doubles), []int{0, 1, 2}))
		if err != nil {
			t.Fatal(doubles, err)
		}
		g, err := Find(c)
		if err != nil {
			t.Fatal(doubles, err)
		}
		if doubles == 0 {
			continue // a triangle
		}
		m, err := Boundary(c, g, 2)
		if doubles > 20 {
			if err != api.ErrBound || m.Rows != 0 || m.Cols != 0 || len(m.L) > 0 {
				t.Error(doubles, m, err)
			}
			continue
		}
		if err != nil || m.Rows != 1 || m.Cols != 1 || m.L[0] != 1<<doubles && m.L[0] != -1<<doubles {
			t.Error(doubles, m, err)
		}
	}
}

// A torus one of whose circles is the first of a tower: on the way to the torus's own sums, which are 0, there are greater ones than a matrix may have.
func TestSumsOnTheWayMayBeGreater(t *testing.T) {
	c, err := cells.Make(append(tower(7, 22), read(t, torus).Facets...))
	if err != nil {
		t.Fatal(err)
	}
	g, err := Find(c)
	if err != nil {
		t.Fatal(err)
	}
	m, err := Boundary(c, g, 2)
	if err != nil || m.Rows == 0 || m.Cols == 0 || slices.ContainsFunc(m.L, func(x int) bool { return x != 0 }) {
		t.Error(m, err)
	}
	capped, err := cells.Make(append(slices.Clone(c.Facets), []int{0, 1, 2}))
	if err != nil {
		t.Fatal(err)
	}
	v, _ := cells.Vector(c)
	for i, p := range g { // 0 1 2 is the first triangle
		if p[1] >= v[0]+v[1] {
			g[i][1]++
		}
	}
	if err := Check(capped, g); err != nil {
		t.Error(err)
	}
	if m, err := Boundary(capped, g, 2); err != api.ErrBound {
		t.Error("the sums are small", m, err)
	}
	if m, err := Boundary(capped, g, 1); err != nil { // those of another dimension are not asked
		t.Error(m, err)
	}
}

func TestSum(t *testing.T) {
	of := func(more, less whole.Nat) sum { return sum{more, less} }
	most := whole.Of(api.MaxEntry)
	huge := whole.Of(math.MaxUint64).Power(9)
	for i, x := range []struct {
		s    sum
		want int
		ok   bool
	}{
		{of(nil, nil), 0, true},
		{of(huge, huge), 0, true},
		{of(huge.Plus(whole.Of(3)), huge), 3, true},
		{of(huge, huge.Plus(whole.Of(3))), -3, true},
		{of(most, nil), api.MaxEntry, true},
		{of(nil, most), -api.MaxEntry, true},
		{of(most.Plus(whole.Of(1)), nil), 0, false},
		{of(nil, most.Plus(whole.Of(1))), 0, false},
		{of(huge, nil), 0, false},
		{of(nil, huge), 0, false},
		{of(whole.Of(math.MaxUint64).Plus(whole.Of(1)), nil), 0, false}, // 0, if it wrapped round
		{of(nil, whole.Of(math.MaxUint64)), 0, false},
		{of(whole.Of(5), whole.Of(2)).plus(of(whole.Of(1), whole.Of(9))).times(-1), 5, true},
		{of(whole.Of(5), whole.Of(2)).plus(of(nil, whole.Of(1))).times(1), 2, true},
	} {
		if got, ok := x.s.entry(); got != x.want || ok != x.ok {
			t.Error(i, got, ok)
		}
	}
}

// toPoint: is a point left, if the first free pair is taken away as long as there is one? Numbers are told anew each time.
func toPoint(t *testing.T, c cells.Complex) bool {
	t.Helper()
	for {
		pairs, err := Free(c)
		if err != nil {
			t.Fatal(err)
		}
		if len(pairs) == 0 {
			return len(c.Facets) == 1 && len(c.Facets[0]) == 1
		}
		if c, err = Collapse(c, pairs[:1]); err != nil {
			t.Fatal(err)
		}
	}
}

func TestFind(t *testing.T) {
	for text, want := range map[string]int{"": 0, "7": 1, "0; 1": 2, "0 1": 1, circle: 2, kite: 1, "0 1 2; 2 3; 3 4 5": 1, "0 1 2 3 4 5 6": 1, annulus: 2, moebius: 2, sphere: 2, torus: 4, plane: 3, dunce: 3} {
		c := read(t, text)
		g, err := Find(c)
		if err != nil || Check(c, g) != nil {
			t.Error(text, g, err)
		}
		if l, err := Critical(c, g); len(l) != want || err != nil {
			t.Error(text, l, err)
		}
	}
	r := rand.New(rand.NewSource(45))
	points, others := 0, 0
	for range 600 {
		c := random(r, 8, 6, 5)
		g, err := Find(c)
		if code, at := checked(listed(c), g); code != 0 || err != nil {
			t.Error(c, g, err, code, at)
		}
		l, err := Critical(c, g)
		if err != nil || toPoint(t, c) && len(l) != 1 {
			t.Error(c, g, l, err)
		}
		if len(l) == 1 {
			points++
		} else {
			others++
		}
	}
	if points < 50 || others < 50 {
		t.Error("too much alike:", points, others)
	}
}

// A gradient that leaves a point is a collapse to it.
func TestFindIsACollapse(t *testing.T) {
	for _, text := range []string{"7", kite, "0 1 2 3 4 5 6", "0 1 2; 2 3; 3 4 5"} {
		c := read(t, text)
		g, _ := Find(c)
		if d, err := Collapse(c, g); len(d.Facets) != 1 || len(d.Facets[0]) != 1 || err != nil {
			t.Error(text, g, d, err)
		}
	}
}

// holes of boundaries: of each dimension, how many copies of the whole numbers, and the cyclic orders.
func holes(t *testing.T, boundary func(dim int) (smith.Matrix, error)) string {
	t.Helper()
	var out []string
	var last smith.Matrix
	for dim := range api.MaxDim + 2 {
		m, err := boundary(dim)
		if err != nil {
			t.Fatal(dim, err)
		}
		factors, err := smith.Factors(m)
		if err != nil {
			t.Fatal(m, err)
		}
		if dim > 0 {
			if m.Rows != last.Cols {
				t.Error(dim, m, last)
			}
			if zero, err := smith.Product(last, m); err != nil || slices.ContainsFunc(zero.L, func(x int) bool { return x != 0 }) {
				t.Error("not 0, of two boundaries:", last, m, err)
			}
			rank, _ := smith.Rank(last, 0)
			out = append(out, fmt.Sprint(last.Cols-rank-len(factors), slices.DeleteFunc(factors, func(x int) bool { return x == 1 })))
		}
		last = m
	}
	return strings.Join(out, " ")
}

func TestTheSmallerComplexHasTheHomology(t *testing.T) {
	r := rand.New(rand.NewSource(46))
	ask := func(c cells.Complex, g [][2]int) {
		t.Helper()
		want := holes(t, func(dim int) (smith.Matrix, error) { return cells.Boundary(c, dim) })
		got := holes(t, func(dim int) (smith.Matrix, error) { return Boundary(c, g, dim) })
		if got != want {
			t.Error(c, g, got, want)
		}
	}
	for _, text := range shapes() {
		c := read(t, text)
		g, err := Find(c)
		if err != nil {
			t.Error(text, err)
		}
		ask(c, g)
		if len(listed(c)) < 60 {
			ask(c, randomField(r, listed(c), r.Intn(40)))
			ask(c, randomField(r, listed(c), 99))
		}
	}
	for range 150 {
		c := random(r, 6, 9, 4)
		g, _ := Find(c)
		ask(c, g)
		ask(c, randomField(r, listed(c), 99))
	}
	if got := holes(t, func(dim int) (smith.Matrix, error) {
		g, _ := Find(read(t, plane))
		return Boundary(read(t, plane), g, dim)
	}); !strings.HasPrefix(got, "1 [] 0 [2] 0 [] ") {
		t.Error(got)
	}
}

// graph of the vertices 0 to 99 and so many edges: it has 100 faces more than edges.
func graph(edges int) [][]int {
	var out [][]int
	for v := range 100 {
		out = append(out, []int{v})
	}
	for gap := 1; len(out) < 100+edges; gap++ {
		for v := 0; v+gap < 100 && len(out) < 100+edges; v++ {
			out = append(out, []int{v, v + gap})
		}
	}
	return out
}

// calls of the package, each with its answer and its error.
func calls(dim int) map[string]func(c cells.Complex, g [][2]int) (string, error) {
	tell := func(x any, err error) (string, error) { return fmt.Sprint(x), err }
	return map[string]func(c cells.Complex, g [][2]int) (string, error){
		"Free":     func(c cells.Complex, g [][2]int) (string, error) { l, err := Free(c); return tell(l, err) },
		"Collapse": func(c cells.Complex, g [][2]int) (string, error) { d, err := Collapse(c, g); return tell(d, err) },
		"Check":    func(c cells.Complex, g [][2]int) (string, error) { return "", Check(c, g) },
		"Critical": func(c cells.Complex, g [][2]int) (string, error) { l, err := Critical(c, g); return tell(l, err) },
		"Boundary": func(c cells.Complex, g [][2]int) (string, error) { m, err := Boundary(c, g, dim); return tell(m, err) },
		"Find":     func(c cells.Complex, g [][2]int) (string, error) { l, err := Find(c); return tell(l, err) },
	}
}

// zeros: what calls answer beside an error.
func zeros() map[string]string {
	return map[string]string{"Free": "[]", "Collapse": "{[]}", "Check": "", "Critical": "[]", "Boundary": "{0 0 []}", "Find": "[]"}
}

func TestWrongComplexesEverywhere(t *testing.T) {
	for name, x := range map[string]struct {
		l    [][]int
		want error
	}{
		"an empty facet":              {[][]int{{0, 1}, {}}, api.ErrFace},
		"a nil facet":                 {[][]int{nil}, api.ErrFace},
		"a vertex twice":              {[][]int{{1, 1}}, api.ErrFace},
		"a vertex below 0":            {[][]int{{-1}}, api.ErrFace},
		"a vertex above the greatest": {[][]int{{0, api.MaxVertex + 1}}, api.ErrFace},
		"a dimension too high":        {[][]int{{0, 1, 2, 3, 4, 5, 6, 7}}, api.ErrBound},
		"a face too many":             {graph(api.MaxFaces - 99), api.ErrBound},
		"a facet that does not rise":  {[][]int{{1, 0}}, api.ErrShape},
		"facets out of order":         {[][]int{{1}, {0}}, api.ErrShape},
		"a facet in another one":      {[][]int{{0, 1}, {1}}, api.ErrShape},
		"a facet twice":               {[][]int{{0, 1}, {0, 1}}, api.ErrShape},
	} {
		for _, dim := range []int{1, -1, api.MaxDim + 2} {
			for _, g := range [][][2]int{nil, {{-1, 0}}, {{0, 1}, {0, 1}}} { // the complex is asked first
				for call, ask := range calls(dim) {
					if got, err := ask(cells.Complex{Facets: x.l}, g); got != zeros()[call] || err != x.want {
						t.Error(name, call, g, dim, got, err)
					}
				}
			}
		}
	}
}

func TestWrongGradientsEverywhere(t *testing.T) {
	c := read(t, circle)
	many := make([][2]int, 1000000)
	for i := range many {
		many[i] = [2]int{1, 3}
	}
	for name, x := range map[string]struct {
		g    [][2]int
		want string
	}{
		"no pair":          {[][2]int{{1, 3}, {2, 3}, {9, 9}}, "4 1"},
		"a circle":         {[][2]int{{0, 3}, {1, 5}, {2, 4}}, "7 0"},
		"one pair, often":  {many, "4 1"},
		"numbers not told": {[][2]int{{math.MaxInt, math.MinInt}}, "4 0"},
	} {
		for _, call := range []string{"Check", "Critical", "Boundary"} {
			for _, dim := range []int{math.MinInt, -1, 0, 1, 8} { // the gradient is asked ahead of it
				got, err := calls(dim)[call](c, x.g)
				code, at := plain.Code(err)
				var f *api.Fault
				if fmt.Sprint(code, " ", at) != x.want || got != zeros()[call] || !errors.As(err, &f) {
					t.Error(name, call, dim, got, err)
				}
			}
		}
	}
	for _, dim := range []int{math.MinInt, -2, -1, api.MaxDim + 2, math.MaxInt} {
		for _, text := range []string{"", circle} {
			if m, err := Boundary(read(t, text), nil, dim); err != api.ErrBound || m.Rows != 0 || m.Cols != 0 || len(m.L) > 0 {
				t.Error(text, dim, m, err)
			}
		}
	}
}

// The greatest complexes, of every kind of call: all end, and soon.
func TestGreatOnes(t *testing.T) {
	for _, l := range [][][]int{graph(api.MaxFaces - 100), {{0, 1, 2, 3, 4, 5, 6}, {10, 11, 12, 13, 14, 15, 16}, {20, 21, 22, 23, 24, 25, 26}, {30, 31, 32, 33, 34, 35, 36}}, tower(3, 24)} {
		c, err := cells.Make(l)
		if err != nil {
			t.Fatal(err)
		}
		g, err := Find(c)
		if code, _ := checked(listed(c), g); code != 0 || err != nil {
			t.Error(err, code)
		}
		for dim := range api.MaxDim + 2 {
			m, err := Boundary(c, nil, dim)
			if want, _ := cells.Boundary(c, dim); !same(m, want) || err != nil {
				t.Error(dim, m.Rows, m.Cols, err)
			}
			if _, err := Boundary(c, g, dim); err != nil {
				t.Error(dim, err)
			}
		}
	}
}

func TestNothingIsSharedOrChanged(t *testing.T) {
	for name := range calls(1) {
		c := read(t, kite)
		memory := [][2]int{{4, 8}, {0, 5}, {3, 7}, {77, 78}}
		before, err := calls(1)[name](c, memory[:2])
		if again, _ := calls(1)[name](c, memory[:2]); again != before || err != nil {
			t.Error(name, before, again, err)
		}
		if text, _ := cells.Text(c); text != kite || fmt.Sprint(memory) != "[[4 8] [0 5] [3 7] [77 78]]" {
			t.Error(name, "changed", text, memory)
		}
	}
	c := read(t, "0 1 2; 2 3")
	d, _ := Collapse(c, nil)
	for _, f := range d.Facets {
		clear(f)
	}
	d.Facets[0] = append(d.Facets[0], 77)
	if text, _ := cells.Text(c); text != kite {
		t.Error("Collapse shares memory", text)
	}
	d, _ = Collapse(c, nil)
	for _, f := range c.Facets {
		clear(f)
	}
	if got := fmt.Sprint(d); got != "{[[0 1 2] [2 3]]}" {
		t.Error("Collapse keeps what it was handed", got)
	}
}
