package cup

import (
	"errors"
	"fmt"
	"math"
	"math/rand"
	"slices"
	"testing"

	"handlebody/api"
	"handlebody/cells"
	"handlebody/homology"
)

const (
	circle   = "0 1; 0 2; 1 2"
	sphere   = "0 1 2; 0 1 3; 0 2 3; 1 2 3"
	sphere3  = "0 1 2 3; 0 1 2 4; 0 1 3 4; 0 2 3 4; 1 2 3 4"
	torus    = "0 1 3; 1 2 4; 2 3 5; 3 4 6; 0 4 5; 1 5 6; 0 2 6; 0 2 3; 1 3 4; 2 4 5; 3 5 6; 0 4 6; 0 1 5; 1 2 6"
	plane    = "0 1 2; 0 2 3; 0 3 4; 0 4 5; 0 1 5; 1 2 4; 2 3 5; 1 3 4; 2 4 5; 1 3 5"
	moebius  = "0 1 2; 1 2 3; 2 3 4; 0 3 4; 0 1 4"
	bouquet  = "0 1; 0 2; 1 2; 0 3; 0 4; 3 4; 0 5 6; 0 5 7; 0 6 7; 5 6 7"                                                                                                                                                                                                                                                                                                                                                   // two circles and a sphere that have a point in common
	space    = "1 2 3 7; 1 2 3 11; 1 2 6 9; 1 2 6 11; 1 2 7 9; 1 3 5 10; 1 3 5 11; 1 3 7 10; 1 4 7 9; 1 4 7 10; 1 4 8 9; 1 4 8 10; 1 5 6 8; 1 5 6 11; 1 5 8 10; 1 6 8 9; 2 3 4 8; 2 3 4 11; 2 3 7 8; 2 4 6 10; 2 4 6 11; 2 4 8 10; 2 5 7 8; 2 5 7 9; 2 5 8 10; 2 5 9 10; 2 6 9 10; 3 4 5 9; 3 4 5 11; 3 4 8 9; 3 5 9 10; 3 6 7 8; 3 6 7 10; 3 6 8 9; 3 6 9 10; 4 5 6 7; 4 5 6 11; 4 5 7 9; 4 6 7 10; 5 6 7 8"               // the projective space
	complex2 = "0 1 2 3 4; 0 1 2 3 5; 0 1 2 4 5; 0 1 3 4 6; 0 1 3 5 7; 0 1 3 6 7; 0 1 4 5 6; 0 1 5 6 8; 0 1 5 7 8; 0 1 6 7 8; 0 2 3 4 8; 0 2 3 5 8; 0 2 4 5 6; 0 2 4 6 7; 0 2 4 7 8; 0 2 5 6 8; 0 2 6 7 8; 0 3 4 6 7; 0 3 4 7 8; 0 3 5 7 8; 1 2 3 4 8; 1 2 3 5 7; 1 2 3 6 7; 1 2 3 6 8; 1 2 4 5 7; 1 2 4 7 8; 1 2 6 7 8; 1 3 4 6 8; 1 4 5 6 8; 1 4 5 7 8; 2 3 5 6 7; 2 3 5 6 8; 2 4 5 6 7; 3 4 5 6 7; 3 4 5 6 8; 3 4 5 7 8" // the complex projective plane
)

func read(t *testing.T, text string) cells.Complex {
	t.Helper()
	c, err := cells.Read(text)
	if err != nil {
		t.Fatal(text, err)
	}
	return c
}

func product(t *testing.T, a, b string) cells.Complex {
	t.Helper()
	c, err := cells.Product(read(t, a), read(t, b))
	if err != nil {
		t.Fatal(a, b, err)
	}
	return c
}

// bottle of Klein: squares around, four by four, mirrored where the first and the last row meet.
func bottle(t *testing.T) cells.Complex {
	t.Helper()
	at := func(i, k int) int {
		if i == 4 {
			i, k = 0, 8-k
		}
		return 4*i + k%4
	}
	var l [][]int
	for i := range 4 {
		for k := range 4 {
			l = append(l, []int{at(i, k), at(i+1, k), at(i+1, k+1)}, []int{at(i, k), at(i, k+1), at(i+1, k+1)})
		}
	}
	c, err := cells.Make(l)
	if err != nil {
		t.Fatal(err)
	}
	return c
}

// manifolds that are connected and closed, of a dimension.
func manifolds(t *testing.T) map[string]cells.Complex {
	out := map[string]cells.Complex{"bottle": bottle(t), "torus of three circles": product(t, torus, circle), "plane and circle": product(t, plane, circle), "sphere and circle": product(t, sphere, circle)}
	for name, text := range map[string]string{"point": "4", "circle": circle, "sphere": sphere, "sphere3": sphere3, "torus": torus, "plane": plane, "space": space, "complex2": complex2} {
		out[name] = read(t, text)
	}
	return out
}

func random(r *rand.Rand, vertices, sets, size int) cells.Complex {
	var l [][]int
	for range r.Intn(sets + 1) {
		l = append(l, r.Perm(vertices)[:1+r.Intn(size)])
	}
	c, _ := cells.Make(l)
	return c
}

func dimension(c cells.Complex) int {
	v, _ := cells.Vector(c)
	return len(v) - 1
}

func facesOf(c cells.Complex, dim int) [][]int {
	l, _ := cells.Faces(c, dim)
	return l
}

// randomList of numbers below n, rising.
func randomList(r *rand.Rand, n int) []int {
	var out []int
	for i := range n {
		if r.Intn(2) == 0 {
			out = append(out, i)
		}
	}
	return out
}

// placeOf a face among others, one held after the other.
func placeOf(faces [][]int, face []int) int {
	return slices.IndexFunc(faces, func(x []int) bool { return slices.Equal(x, face) })
}

// plainDelta counts, for each greater face, the faces of f all of whose vertices it has.
func plainDelta(c cells.Complex, dim int, f []int) []int {
	var out []int
	small := facesOf(c, dim)
	for i, face := range facesOf(c, dim+1) {
		n := 0
		for _, k := range f {
			if !slices.ContainsFunc(small[k], func(v int) bool { return !slices.Contains(face, v) }) {
				n++
			}
		}
		if n%2 == 1 {
			out = append(out, i)
		}
	}
	return out
}

// plainCup puts each face of f and each of g together where they meet in one vertex.
func plainCup(c cells.Complex, i int, f []int, k int, g []int) []int {
	var out []int
	first, last, all := facesOf(c, i), facesOf(c, k), facesOf(c, i+k)
	for _, x := range f {
		for _, y := range g {
			if first[x][i] != last[y][0] {
				continue
			}
			if n := placeOf(all, append(slices.Clone(first[x]), last[y][1:]...)); n >= 0 {
				out = append(out, n)
			}
		}
	}
	slices.Sort(out)
	return out
}

// sum of two lists: what is in just one of them.
func sum(f, g []int) []int {
	var out []int
	for _, x := range slices.Concat(f, g) {
		if slices.Contains(f, x) != slices.Contains(g, x) {
			out = append(out, x)
		}
	}
	slices.Sort(out)
	return out
}

// plainRank: of lists as sets under sum, the greatest number of each being its own.
func plainRank(lists [][]int) int {
	lists = slices.Clone(lists)
	rank := 0
	for i := range lists {
		if len(lists[i]) == 0 {
			continue
		}
		rank++
		top := lists[i][len(lists[i])-1]
		for k := i + 1; k < len(lists); k++ {
			if slices.Contains(lists[k], top) {
				lists[k] = sum(lists[k], lists[i])
			}
		}
	}
	return rank
}

// plainDeltas of all faces of a dimension, each alone.
func plainDeltas(c cells.Complex, dim int) [][]int {
	var out [][]int
	for i := range facesOf(c, dim) {
		out = append(out, plainDelta(c, dim, []int{i}))
	}
	return out
}

// plainCocycles: a basis. Faces are added to each other until the Deltas that are left begin unlike.
func plainCocycles(c cells.Complex, dim int) [][]int {
	deltas := plainDeltas(c, dim)
	var sums, out [][]int
	for i := range deltas {
		sums = append(sums, []int{i})
	}
	for i := range deltas {
		if len(deltas[i]) == 0 {
			out = append(out, sums[i])
			continue
		}
		for k := i + 1; k < len(deltas); k++ {
			if slices.Contains(deltas[k], deltas[i][0]) {
				deltas[k], sums[k] = sum(deltas[k], deltas[i]), sum(sums[k], sums[i])
			}
		}
	}
	return out
}

// plainRing multiplies all cocycles of a basis, not classes alone.
func plainRing(c cells.Complex) [][]int {
	var out [][]int
	n := dimension(c)
	for i := range n + 1 {
		var counts []int
		for k := range n - i + 1 {
			zeros := plainDeltas(c, i+k-1)
			all := slices.Clone(zeros)
			for _, f := range plainCocycles(c, i) {
				for _, g := range plainCocycles(c, k) {
					all = append(all, plainCup(c, i, f, k, g))
				}
			}
			counts = append(counts, plainRank(all)-plainRank(zeros))
		}
		out = append(out, counts)
	}
	return out
}

// subsets of the numbers below n.
func subsets(n int) [][]int {
	var out [][]int
	for bits := range 1 << n {
		var l []int
		for i := range n {
			if bits>>i&1 == 1 {
				l = append(l, i)
			}
		}
		out = append(out, l)
	}
	return out
}

func TestDelta(t *testing.T) {
	for _, x := range []struct {
		text string
		dim  int
		f    []int
		want string
	}{
		{"0 1 2; 2 3", 0, []int{2}, "[1 2 3]"},
		{"0 1 2; 2 3", 0, []int{0, 1}, "[1 2]"},
		{"0 1 2; 2 3", 0, []int{0, 1, 2, 3}, "[]"},
		{"0 1 2; 2 3", 0, nil, "[]"},
		{"0 1 2; 2 3", 0, []int{}, "[]"},
		{"0 1 2; 2 3", 1, []int{0}, "[0]"},
		{"0 1 2; 2 3", 1, []int{0, 1, 2}, "[0]"},
		{"0 1 2; 2 3", 1, []int{1, 2}, "[]"},
		{"0 1 2; 2 3", 1, []int{3}, "[]"},
		{"0 1 2; 2 3", 2, []int{0}, "[]"},
		{"7", 0, []int{0}, "[]"},
		{"0 99; 5", 0, []int{2}, "[0]"},
		{"0 1 2 3", 2, []int{0, 2, 3}, "[0]"},
		{"0 1 2 3 4 5 6", 5, []int{6}, "[0]"},
		{"0 1 2 3 4 5 6", 6, []int{0}, "[]"},
	} {
		d, err := Delta(read(t, x.text), x.dim, x.f)
		if got := fmt.Sprint(d); got != x.want || err != nil {
			t.Error(x, got, err)
		}
	}
}

func TestCup(t *testing.T) {
	for _, x := range []struct {
		text string
		i    int
		f    []int
		k    int
		g    []int
		want string
	}{
		{"0 1 2; 1 2 3", 1, []int{0, 2}, 1, []int{2, 4}, "[0 1]"},
		{"0 1 2; 1 2 3", 1, []int{2, 4}, 1, []int{0, 2}, "[]"},
		{"0 1 2; 1 2 3", 1, []int{0}, 1, []int{1}, "[]"},
		{"0 1 2; 1 2 3", 2, []int{0, 1}, 0, []int{2}, "[0]"},
		{"0 1 2; 1 2 3", 0, []int{1}, 2, []int{0, 1}, "[1]"},
		{"0 1 2; 1 2 3", 0, []int{0, 3}, 0, []int{0, 1, 3}, "[0 3]"},
		{"0 1 2; 1 2 3", 0, []int{0, 1, 2, 3}, 1, []int{0, 4}, "[0 4]"},
		{"0 1 2; 1 2 3", 2, []int{0}, 1, []int{0}, "[]"},
		{"0 1 2; 1 2 3", 2, []int{0, 1}, 2, []int{0, 1}, "[]"},
		{"0 1 2; 1 2 3", 1, nil, 1, []int{0, 1, 2, 3, 4}, "[]"},
		{"0 1; 0 2; 1 2", 1, []int{0}, 1, []int{2}, "[]"}, // the triangle is no face
		{"5; 9", 0, []int{1}, 0, []int{0, 1}, "[1]"},
		{"0 1 2 3 4 5 6", 3, []int{0}, 3, []int{34}, "[0]"},
		{"0 1 2 3 4 5 6", 6, []int{0}, 6, []int{0}, "[]"},
	} {
		p, err := Cup(read(t, x.text), x.i, x.f, x.k, x.g)
		if got := fmt.Sprint(p); got != x.want || err != nil {
			t.Error(x, got, err)
		}
	}
}

func TestAgainstPlainSteps(t *testing.T) {
	r := rand.New(rand.NewSource(60))
	for range 60 {
		c := random(r, 12, 7, 7)
		n := dimension(c)
		for i := range n + 1 {
			f := randomList(r, len(facesOf(c, i)))
			want := plainDelta(c, i, f)
			if d, err := Delta(c, i, f); !slices.Equal(d, want) || err != nil {
				t.Fatal(c, i, f, d, want, err)
			}
			if is, err := Cocycle(c, i, f); is != (len(want) == 0) || err != nil {
				t.Fatal(c, i, f, is, err)
			}
			for k := range n + 1 {
				g := randomList(r, len(facesOf(c, k)))
				want := plainCup(c, i, f, k, g)
				if p, err := Cup(c, i, f, k, g); !slices.Equal(p, want) || err != nil {
					t.Fatal(c, i, f, k, g, p, want, err)
				}
			}
		}
	}
}

func TestCocycle(t *testing.T) {
	for _, x := range []struct {
		text string
		dim  int
		f    []int
		want bool
	}{
		{circle, 0, []int{0}, false},
		{circle, 0, []int{0, 1, 2}, true},
		{circle, 0, nil, true},
		{circle, 1, []int{0}, true},
		{"0; 1 2", 0, []int{0}, true},
		{"0; 1 2", 0, []int{1}, false},
		{"0 1 2; 2 3", 1, []int{0}, false},
		{"0 1 2; 2 3", 1, []int{3}, true},
		{"0 1 2; 2 3", 1, []int{0, 2, 3}, true},
		{"0 1 2; 2 3", 2, []int{0}, true},
		{"7", 0, []int{0}, true},
	} {
		if is, err := Cocycle(read(t, x.text), x.dim, x.f); is != x.want || err != nil {
			t.Error(x, is, err)
		}
	}
}

func TestSame(t *testing.T) {
	for _, x := range []struct {
		text string
		dim  int
		f, g []int
		want bool
	}{
		{circle, 1, []int{0}, []int{1}, true},
		{circle, 1, []int{0}, nil, false},
		{circle, 1, []int{0, 2}, nil, true},
		{circle, 1, []int{0, 1, 2}, []int{2}, true},
		{circle, 0, []int{0, 1, 2}, []int{0, 1, 2}, true},
		{circle, 0, []int{0, 1, 2}, nil, false},
		{circle, 0, nil, nil, true},
		{circle, 0, []int{0}, []int{0}, false}, // they are no cocycles
		{circle, 0, []int{0}, []int{0, 1, 2}, false},
		{circle, 0, []int{0, 1, 2}, []int{0}, false},
		{"0; 1 2", 0, []int{0}, []int{0}, true},
		{"0; 1 2", 0, []int{0}, []int{1, 2}, false},
		{"0 1 2; 2 3", 1, []int{3}, nil, true},
		{"0 1 2; 2 3", 1, []int{0}, []int{1}, false}, // their sum is a Delta, but they are no cocycles
		{"0 1 2; 2 3", 1, []int{0}, []int{0}, false},
		{"0 1 2; 2 3", 2, []int{0}, nil, true},
		{sphere, 2, []int{0}, []int{3}, true},
		{sphere, 2, []int{0}, []int{1, 2}, false},
		{plane, 2, []int{0, 1, 2}, []int{9}, true},
	} {
		if same, err := Same(read(t, x.text), x.dim, x.f, x.g); same != x.want || err != nil {
			t.Error(x, same, err)
		}
	}
}

// All cochains of one dimension less are tried.
func TestSameAgainstAllDeltas(t *testing.T) {
	r := rand.New(rand.NewSource(61))
	count := 0
	for range 300 {
		c := random(r, 6, 5, 4)
		for dim := range dimension(c) + 1 {
			below := len(facesOf(c, dim-1))
			if below > 9 {
				continue
			}
			deltas := [][]int{nil}
			if dim > 0 {
				deltas = nil
				for _, l := range subsets(below) {
					deltas = append(deltas, plainDelta(c, dim-1, l))
				}
			}
			cocycles := plainCocycles(c, dim)
			for range 6 {
				f := randomList(r, len(facesOf(c, dim)))
				for range r.Intn(2) * 3 {
					f = pick(r, cocycles)
				}
				g := sum(f, deltas[r.Intn(len(deltas))])
				for range r.Intn(2) {
					g = sum(g, pick(r, cocycles))
				}
				want := len(plainDelta(c, dim, f)) == 0 && len(plainDelta(c, dim, g)) == 0 && slices.ContainsFunc(deltas, func(d []int) bool { return slices.Equal(d, sum(f, g)) })
				if same, err := Same(c, dim, f, g); same != want || err != nil {
					t.Fatal(c, dim, f, g, same, want, err)
				}
				if want {
					count++
				}
			}
		}
	}
	if count < 300 {
		t.Error("hardly any were the same:", count)
	}
}

// pick a random sum.
func pick(r *rand.Rand, lists [][]int) []int {
	var out []int
	for _, l := range lists {
		if r.Intn(2) == 0 {
			out = sum(out, l)
		}
	}
	return out
}

func TestRing(t *testing.T) {
	for text, want := range map[string]string{
		"":                              "[]",
		"7":                             "[[1]]",
		"0; 5; 99":                      "[[3]]",
		circle:                          "[[1 1] [1]]",
		"0 1; 2":                        "[[2 0] [0]]",
		"0 1 2":                         "[[1 0 0] [0 0] [0]]",
		sphere:                          "[[1 0 1] [0 0] [1]]",
		torus:                           "[[1 2 1] [2 1] [1]]",
		plane:                           "[[1 1 1] [1 1] [1]]",
		moebius:                         "[[1 1 0] [1 0] [0]]",
		bouquet:                         "[[1 2 1] [2 0] [1]]",
		space:                           "[[1 1 1 1] [1 1 1] [1 1] [1]]",
		complex2:                        "[[1 0 1 0 1] [0 0 0 0] [1 0 1] [0 0] [1]]",
		plane + "; 9":                   "[[2 1 1] [1 1] [1]]",
		plane + "; 10 11; 10 12; 11 12": "[[2 2 1] [2 1] [1]]",
		"0 1; 0 2; 1 2; 3 4; 3 5; 4 5":  "[[2 2] [2]]",
		"0 1 2 3 4 5 6":                 "[[1 0 0 0 0 0 0] [0 0 0 0 0 0] [0 0 0 0 0] [0 0 0 0] [0 0 0] [0 0] [0]]",
		"0 1 2 3; 2 4; 3 4; 50 60; 50 70; 60 70; 80 90": "[[3 2 0 0] [2 0 0] [0 0] [0]]",
	} {
		l, err := Ring(read(t, text))
		if got := fmt.Sprint(l); got != want || err != nil {
			t.Error(text, got, err)
		}
	}
	for i, x := range []struct {
		c    cells.Complex
		want string
	}{
		{bottle(t), "[[1 2 1] [2 1] [1]]"},
		{product(t, circle, circle), "[[1 2 1] [2 1] [1]]"},
		{product(t, torus, circle), "[[1 3 3 1] [3 3 1] [3 1] [1]]"},
		{product(t, plane, circle), "[[1 2 2 1] [2 2 1] [2 1] [1]]"},
		{product(t, sphere, circle), "[[1 1 1 1] [1 0 1] [1 1] [1]]"},
		{product(t, "0; 1", plane), "[[2 2 2] [2 2] [2]]"},
	} {
		l, err := Ring(x.c)
		if got := fmt.Sprint(l); got != x.want || err != nil {
			t.Error(i, got, err)
		}
	}
}

func TestRingAgainstPlainSteps(t *testing.T) {
	r := rand.New(rand.NewSource(62))
	for i := range 120 {
		c := random(r, 7, 12, 4)
		if i%5 == 0 { // some with products that are not 0: a plane beside, or glued in one vertex or more
			other := random(r, 8, 3, 3)
			c, _ = cells.Union(read(t, plane), other)
		}
		want := fmt.Sprint(plainRing(c))
		l, err := Ring(c)
		if got := fmt.Sprint(l); got != want || err != nil {
			t.Fatal(c, got, want, err)
		}
	}
}

// A product with the class of everything leaves all: the first row and column have as many dimensions as homology over the field of two elements.
func TestRingAgainstHomology(t *testing.T) {
	r := rand.New(rand.NewSource(63))
	for range 200 {
		c := random(r, 20, 40, 4)
		l, err := Ring(c)
		if err != nil {
			t.Fatal(err)
		}
		chain, _ := homology.Complex(c)
		want, err := homology.Mod(chain, 2)
		if err != nil || len(want) != len(l) {
			t.Fatal(c, want, l, err)
		}
		for i := range l {
			if len(l[i]) != len(l)-i || l[0][i] != want[i] || l[i][0] != want[i] {
				t.Fatal(c, want, l)
			}
			for k := range l[i] {
				if l[i][k] != l[k][i] {
					t.Fatal(c, l)
				}
			}
		}
	}
}

func TestDeltaOfDeltaAndLeibniz(t *testing.T) {
	r := rand.New(rand.NewSource(64))
	ask := func(c cells.Complex) {
		n := dimension(c)
		for i := range n {
			f := randomList(r, len(facesOf(c, i)))
			df, _ := Delta(c, i, f)
			if d, err := Delta(c, i+1, df); len(d) > 0 || err != nil {
				t.Fatal(c, i, f, d, err)
			}
			for k := range n - i {
				g := randomList(r, len(facesOf(c, k)))
				p, _ := Cup(c, i, f, k, g)
				d, _ := Delta(c, i+k, p)
				dg, _ := Delta(c, k, g)
				left, _ := Cup(c, i+1, df, k, g)
				right, err := Cup(c, i, f, k+1, dg)
				if !slices.Equal(d, sum(left, right)) || err != nil {
					t.Fatal(c, i, f, k, g, d, left, right, err)
				}
			}
		}
	}
	for range 60 {
		ask(random(r, 14, 10, 6))
	}
	for _, c := range manifolds(t) {
		ask(c)
	}
}

// Other cocycles of the same classes have a product of the same class, and so has the product in the other order.
func TestClassesAreMultiplied(t *testing.T) {
	r := rand.New(rand.NewSource(65))
	ask := func(c cells.Complex) {
		n := dimension(c)
		for i := range n + 1 {
			for k := range n - i + 1 {
				f, g := pick(r, plainCocycles(c, i)), pick(r, plainCocycles(c, k))
				p, _ := Cup(c, i, f, k, g)
				turned, _ := Cup(c, k, g, i, f)
				if same, err := Same(c, i+k, p, turned); !same || err != nil {
					t.Fatal(c, i, f, k, g, err)
				}
				if i > 0 {
					f = sum(f, plainDelta(c, i-1, randomList(r, len(facesOf(c, i-1)))))
				}
				if k > 0 {
					g = sum(g, plainDelta(c, k-1, randomList(r, len(facesOf(c, k-1)))))
				}
				other, _ := Cup(c, i, f, k, g)
				if same, err := Same(c, i+k, p, other); !same || err != nil {
					t.Fatal(c, i, f, k, g, err)
				}
			}
		}
	}
	for range 60 {
		ask(random(r, 9, 14, 4))
	}
	for _, text := range []string{torus, plane, space, bouquet, complex2, moebius} {
		ask(read(t, text))
	}
}

// A class with itself is 0 on the torus; on the plane it is not, and on the bottle not of every one.
func TestSquares(t *testing.T) {
	for name, x := range map[string]struct {
		c    cells.Complex
		want int
	}{"torus": {read(t, torus), 0}, "plane": {read(t, plane), 1}, "bottle": {bottle(t), 2}} {
		n := 0
		for _, f := range allClasses(x.c, 1) {
			p, _ := Cup(x.c, 1, f, 1, f)
			zero, err := Same(x.c, 2, p, nil)
			if err != nil {
				t.Error(err)
			}
			if !zero {
				n++
			}
		}
		if n != x.want {
			t.Error(name, n)
		}
	}
}

// allClasses of a dimension, a cocycle of each.
func allClasses(c cells.Complex, dim int) [][]int {
	var base [][]int
	known := plainDeltas(c, dim-1)
	for _, f := range plainCocycles(c, dim) {
		if more := append(slices.Clone(known), f); plainRank(more) > plainRank(known) {
			known, base = more, append(base, f)
		}
	}
	var out [][]int
	for _, l := range subsets(len(base)) {
		var f []int
		for _, i := range l {
			f = sum(f, base[i])
		}
		out = append(out, f)
	}
	return out
}

func TestPoincare(t *testing.T) {
	for name, c := range manifolds(t) {
		n := dimension(c)
		l, _ := Ring(c)
		for i := range n + 1 {
			if l[0][i] != l[0][n-i] {
				t.Error(name, l)
			}
			classes, others := allClasses(c, i), allClasses(c, n-i)
			if len(classes) != 1<<l[0][i] {
				t.Error(name, i, len(classes))
			}
			for _, f := range classes {
				zero, err := Same(c, i, f, nil)
				if err != nil {
					t.Error(name, err)
				}
				meets := slices.ContainsFunc(others, func(g []int) bool {
					p, _ := Cup(c, i, f, n-i, g)
					gone, err := Same(c, n, p, nil)
					return !gone && err == nil
				})
				if zero == meets {
					t.Error(name, i, f, zero, meets)
				}
			}
		}
	}
}

// asked: all calls of a complex, two dimensions and two lists, each with its error. Cup takes both dimensions; the others the second one.
func asked(c cells.Complex, i int, f []int, k int, g []int) map[string][]any {
	out := map[string][]any{}
	p, err := Cup(c, i, f, k, g)
	out["Cup"] = []any{len(p), err}
	d, err := Delta(c, k, g)
	out["Delta"] = []any{len(d), err}
	is, err := Cocycle(c, k, g)
	out["Cocycle"] = []any{is, err}
	same, err := Same(c, k, g, g)
	out["Same"] = []any{same, err}
	return out
}

func askErrors(t *testing.T, name string, got map[string][]any, want error) {
	t.Helper()
	for call, x := range got {
		if x[0] != any(0) && x[0] != any(false) || x[1] != error(want) {
			t.Error(name, call, x, want)
		}
	}
}

func TestWrongComplexesEverywhere(t *testing.T) {
	many := [][]int{}
	for v := range 100 {
		for w := range v {
			many = append(many, []int{w, v})
		}
	}
	for name, x := range map[string]struct {
		l    [][]int
		want error
	}{
		"an empty facet":       {[][]int{{}}, api.ErrFace},
		"a vertex above":       {[][]int{{0, 100}}, api.ErrFace},
		"a vertex below":       {[][]int{{-1}}, api.ErrFace},
		"too many faces":       {many, api.ErrBound},
		"a dimension too high": {[][]int{{0, 1, 2, 3, 4, 5, 6, 7}}, api.ErrBound},
		"out of order":         {[][]int{{1}, {0}}, api.ErrShape},
		"a facet that falls":   {[][]int{{1, 0}}, api.ErrShape},
		"a part of a facet":    {[][]int{{0, 1}, {1}}, api.ErrShape},
	} {
		c := cells.Complex{Facets: x.l}
		for _, dim := range []int{0, -1, 9} {
			for _, f := range [][]int{nil, {0}, {-1}} {
				askErrors(t, name, asked(c, dim, f, dim, f), x.want)
			}
		}
		if l, err := Ring(c); len(l) > 0 || err != x.want {
			t.Error(name, l, err)
		}
	}
}

func TestWrongDimensions(t *testing.T) {
	for text, wrong := range map[string][]int{"": {0, -1, 1, math.MinInt, math.MaxInt}, "7": {-1, 1, 2}, "0 1 2; 2 3": {-1, 3, 4, 7, math.MinInt, math.MaxInt}, "0 1 2 3 4 5 6": {-1, 7, 8}} {
		c := read(t, text)
		for _, dim := range wrong {
			for _, f := range [][]int{nil, {0}, {1, 0}, {-5}} {
				askErrors(t, text, asked(c, dim, f, dim, f), api.ErrBound)
				for _, other := range [][]int{nil, {-5}} { // one dimension alone, also with a wrong list of the other one
					for _, p := range [][]any{pair(Cup(c, 0, other, dim, f)), pair(Cup(c, dim, f, 0, other))} {
						if p[0] != any(0) || p[1] != error(api.ErrBound) {
							t.Error(text, dim, f, p)
						}
					}
				}
			}
		}
	}
}

func pair(l []int, err error) []any { return []any{len(l), err} }

func TestWrongLists(t *testing.T) {
	c := read(t, "0 1 2; 2 3") // four vertices, four edges, a triangle
	for dim, n := range []int{4, 4, 1} {
		for _, f := range [][]int{{n}, {-1}, {0, 0}, {1, 0}, {0, n}, {-1, 0}, {math.MinInt}, {math.MaxInt}, {0, math.MinInt}, slices.Repeat([]int{0}, 1000)} {
			askErrors(t, fmt.Sprint(dim, f), asked(c, dim, f, dim, f), api.ErrFace)
			for _, x := range []func() (any, error){
				func() (any, error) { p, err := Cup(c, 0, []int{0}, dim, f); return len(p), err },
				func() (any, error) { p, err := Cup(c, dim, f, 0, []int{0}); return len(p), err },
				func() (any, error) { p, err := Cup(c, 2, []int{0}, dim, f); return len(p), err }, // also where no product could be
				func() (any, error) { same, err := Same(c, dim, f, nil); return same, err },
				func() (any, error) { same, err := Same(c, dim, nil, f); return same, err },
			} {
				if got, err := x(); got != any(0) && got != any(false) || err != api.ErrFace {
					t.Error(dim, f, got, err)
				}
			}
		}
	}
	if _, err := Same(c, 1, []int{0}, []int{4}); !errors.Is(err, api.ErrFace) { // the first is no cocycle
		t.Error(err)
	}
}

func TestNothingIsSharedOrChanged(t *testing.T) {
	c := read(t, torus)
	before := fmt.Sprint(c)
	memory := []int{0, 3, 5, 8, 20, -7, 99}
	f := memory[:4]
	d, _ := Delta(c, 1, f)
	p, _ := Cup(c, 1, f, 1, f)
	q, _ := Cup(c, 0, f, 0, f)
	l, _ := Ring(c)
	told := fmt.Sprint(d, p, q, l)
	for _, x := range append(slices.Clone(l), d, p, q) {
		for i := range x[:cap(x)] {
			x[:cap(x)][i] = -1
		}
	}
	Same(c, 1, f, f)
	Cocycle(c, 1, f)
	if fmt.Sprint(c) != before || fmt.Sprint(memory) != "[0 3 5 8 20 -7 99]" {
		t.Error("what is handed over was changed", c, memory)
	}
	d, _ = Delta(c, 1, f)
	p, _ = Cup(c, 1, f, 1, f)
	q, _ = Cup(c, 0, f, 0, f)
	if l, _ = Ring(c); fmt.Sprint(d, p, q, l) != told {
		t.Error("another answer", d, p, q, l)
	}
}

// greatest complexes: as many pieces, circles, or circles that could meet in triangles, as there may be.
func TestAtTheBounds(t *testing.T) {
	var points, edges, fans [][]int
	for v := range 100 {
		points = append(points, []int{v})
	}
	for gap := 1; len(edges) < 500; gap++ {
		for v := 0; v+gap < 100 && len(edges) < 500; v++ {
			edges = append(edges, []int{v, v + gap})
		}
	}
	r := rand.New(rand.NewSource(66))
	for v := range 25 { // edges of 25 points, with triangles on some of them
		for w := range v {
			fans = append(fans, []int{w, v})
		}
	}
	for {
		more := append(fans, r.Perm(25)[:3])
		if _, err := cells.Make(more); err != nil {
			break
		}
		fans = more
	}
	for name, l := range map[string][][]int{"points": points, "edges": edges, "fans": fans} {
		c, err := cells.Make(l)
		if err != nil {
			t.Fatal(name, err)
		}
		got, err := Ring(c)
		if err != nil {
			t.Error(name, err)
		}
		switch name {
		case "points":
			if fmt.Sprint(got) != "[[100]]" {
				t.Error(got)
			}
		case "edges":
			if fmt.Sprint(got) != "[[1 401] [401]]" {
				t.Error(got)
			}
		case "fans":
			n, _ := cells.Euler(c)
			if got[0][0]-got[0][1]+got[0][2] != n || got[0][1] == 0 || got[1][1] > got[0][2] {
				t.Error(got)
			}
		}
	}
}
