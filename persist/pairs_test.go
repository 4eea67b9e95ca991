package persist

import (
	"fmt"
	"math"
	"math/rand"
	"slices"
	"sync"
	"testing"

	"handlebody/api"
	"handlebody/homology"
)

// told by all numbers of workers alike.
func told(t *testing.T, f Steps) (pairs [][2]int, bars []api.Bar) {
	t.Helper()
	before := copied(f)
	for workers := 1; workers <= api.Workers; workers++ {
		p, err := Pairs(f, workers)
		b, bad := Bars(f, workers)
		if err != nil || bad != nil {
			t.Fatal(f, workers, err, bad)
		}
		if workers > 1 && (!slices.Equal(p, pairs) || !slices.Equal(b, bars)) {
			t.Fatal(f, workers, p, pairs, b, bars)
		}
		pairs, bars = p, b
	}
	if !same(f, before) {
		t.Fatal("changed", f, before)
	}
	return pairs, bars
}

func alive(t *testing.T, f Steps, at int) []int {
	t.Helper()
	n, err := Alive(f, at)
	if err != nil {
		t.Fatal(f, at, err)
	}
	return n
}

func TestBarcodes(t *testing.T) {
	circle := [][]int{{0}, {1}, {2}, {0, 1}, {1, 2}, {0, 2}}
	for name, c := range map[string]struct {
		faces       [][]int
		times       []int
		pairs, bars string
	}{
		"nothing":                   {nil, nil, "[]", "[]"},
		"a point":                   {[][]int{{42}}, []int{7}, "[[0 -1]]", "[{0 7 -1}]"},
		"the last point":            {[][]int{{99}}, []int{1000000}, "[[0 -1]]", "[{0 1000000 -1}]"},
		"the document's":            {[][]int{{0}, {1}, {0, 1}}, []int{0, 1, 5}, "[[0 -1] [1 2]]", "[{0 0 -1} {0 1 5}]"},
		"the younger one dies":      {[][]int{{0}, {1}, {0, 1}}, []int{1, 0, 5}, "[[0 2] [1 -1]]", "[{0 0 -1} {0 1 5}]"},
		"of one time, the greater":  {[][]int{{5}, {3}, {3, 5}}, []int{0, 0, 1}, "[[0 2] [1 -1]]", "[{0 0 1} {0 0 -1}]"},
		"no time at all":            {[][]int{{0, 1}, {1}, {0}}, []int{4, 4, 0}, "[[1 0] [2 -1]]", "[{0 0 -1}]"},
		"all at once":               {circle, make([]int, 6), "[[0 -1] [1 3] [2 5] [4 -1]]", "[{0 0 -1} {1 0 -1}]"},
		"a circle":                  {circle, []int{0, 0, 0, 1, 2, 3}, "[[0 -1] [1 3] [2 4] [5 -1]]", "[{0 0 1} {0 0 2} {0 0 -1} {1 3 -1}]"},
		"two pieces":                {[][]int{{9}, {8}, {7}, {7, 9}}, []int{1, 1, 1, 1}, "[[0 3] [1 -1] [2 -1]]", "[{0 1 -1} {0 1 -1}]"},
		"an old piece meets an old": {[][]int{{0}, {1}, {2}, {3}, {0, 1}, {2, 3}, {1, 3}}, []int{0, 3, 1, 2, 4, 5, 6}, "[[0 -1] [1 4] [2 6] [3 5]]", "[{0 0 -1} {0 1 6} {0 2 5} {0 3 4}]"},
		"edges of one time":         {[][]int{{2}, {1}, {0}, {1, 2}, {0, 2}, {0, 1}}, []int{0, 0, 0, 1, 1, 1}, "[[0 4] [1 5] [2 -1] [3 -1]]", "[{0 0 1} {0 0 1} {0 0 -1} {1 1 -1}]"},
		"two triangles":             {closed([]int{0, 1, 2}, []int{1, 2, 3}), []int{0, 0, 0, 0, 1, 2, 3, 4, 5, 9, 8}, "[[0 -1] [1 4] [2 5] [3 7] [6 9] [8 10]]", "[{0 0 1} {0 0 2} {0 0 4} {0 0 -1} {1 3 9} {1 5 8}]"},
		"the other circle first":    {closed([]int{0, 1, 2}, []int{1, 2, 3}), []int{0, 0, 0, 0, 1, 2, 3, 4, 5, 8, 9}, "[[0 -1] [1 4] [2 5] [3 7] [6 9] [8 10]]", "[{0 0 1} {0 0 2} {0 0 4} {0 0 -1} {1 3 8} {1 5 9}]"},
		"around, then a middle":     {closed([]int{0, 1, 2}, []int{1, 2, 3}), []int{0, 0, 0, 0, 1, 2, 5, 3, 4, 8, 9}, "[[0 -1] [1 4] [2 5] [3 7] [6 9] [8 10]]", "[{0 0 1} {0 0 2} {0 0 3} {0 0 -1} {1 4 9} {1 5 8}]"},
	} {
		t.Run(name, func(t *testing.T) {
			f := Steps{Faces: c.faces, Times: c.times}
			pairs, bars := told(t, f)
			if fmt.Sprint(pairs) != c.pairs || fmt.Sprint(bars) != c.bars {
				t.Error(pairs, bars)
			}
			if !slices.Equal(pairs, plainPairs(f)) {
				t.Error(pairs, plainPairs(f))
			}
		})
	}
}

func TestWrongWorkers(t *testing.T) {
	for _, f := range []Steps{{}, {Faces: [][]int{{0}}, Times: []int{0}}, {Faces: great(), Times: make([]int, 600)}} {
		for _, workers := range []int{0, -1, 17, 18, 1000, math.MaxInt, math.MinInt} {
			pairs, err := Pairs(f, workers)
			bare(t, err, api.ErrShape, workers)
			bars, err := Bars(f, workers)
			bare(t, err, api.ErrShape, workers)
			if len(pairs) > 0 || len(bars) > 0 {
				t.Error(workers, pairs, bars)
			}
		}
	}
}

// TestKnownShapes: what stays, and how much comes and goes, where all comes dimension by dimension, or at once.
func TestKnownShapes(t *testing.T) {
	whole := closed(firstVertices(8))
	var torus [][]int
	for i := range 7 {
		torus = append(torus, []int{i, (i + 1) % 7, (i + 3) % 7}, []int{i, (i + 2) % 7, (i + 3) % 7})
	}
	plane := [][]int{{0, 1, 2}, {0, 2, 3}, {0, 3, 4}, {0, 4, 5}, {0, 1, 5}, {1, 2, 4}, {2, 3, 5}, {1, 3, 4}, {2, 4, 5}, {1, 3, 5}}
	for name, c := range map[string]struct {
		faces [][]int
		stay  string
	}{
		"the ball of dimension 6":   {closed(firstVertices(7)), "[1 0 0 0 0 0 0]"},
		"the sphere of dimension 6": {whole[:254], "[1 0 0 0 0 0 1]"},
		"a torus":                   {closed(torus...), "[1 2 1]"},
		"the projective plane":      {closed(plane...), "[1 1 1]"}, // over two elements
		"the octahedron's rim":      {closed([]int{0, 2, 4}, []int{0, 2, 5}, []int{0, 3, 4}, []int{0, 3, 5}, []int{1, 2, 4}, []int{1, 2, 5}, []int{1, 3, 4}, []int{1, 3, 5}), "[1 0 1]"},
		"many points and edges":     {great(), fmt.Sprint(graphNumbers(great()))},
	} {
		t.Run(name, func(t *testing.T) {
			byDim := Steps{Faces: c.faces}
			for _, face := range c.faces {
				byDim.Times = append(byDim.Times, 10*len(face))
			}
			for _, f := range []Steps{byDim, {Faces: c.faces, Times: make([]int, len(c.faces))}} {
				pairs, bars := told(t, f)
				stay := make([]int, len(f.Faces[len(f.Faces)-1]))
				for _, b := range bars {
					if b.Death == -1 {
						stay[b.Dim]++
					}
				}
				if fmt.Sprint(stay) != c.stay || fmt.Sprint(alive(t, f, 1000000)) != c.stay || fmt.Sprint(alive(t, f, math.MaxInt)) != c.stay {
					t.Error(stay, alive(t, f, 1000000))
				}
				if !slices.Equal(pairs, plainPairs(f)) || !slices.Equal(bars, plainBars(f, pairs)) {
					t.Error(pairs, bars)
				}
			}
		})
	}
}

// graphNumbers: pieces and circles, by names that spread.
func graphNumbers(faces [][]int) []int {
	name := make([]int, 100)
	for v := range name {
		name[v] = v
	}
	pieces, edges := 100, 0
	for _, face := range faces {
		if len(face) < 2 {
			continue
		}
		edges++
		a, b := name[face[0]], name[face[1]]
		if a == b {
			continue
		}
		pieces--
		for v := range name {
			if name[v] == b {
				name[v] = a
			}
		}
	}
	return []int{pieces, edges - 100 + pieces}
}

func TestManyBarcodes(t *testing.T) {
	r := rand.New(rand.NewSource(1310))
	short, ever, high := 0, 0, 0
	for range 250 {
		f := someSteps(r)
		pairs, bars := told(t, f)
		if want := plainPairs(f); !slices.Equal(pairs, want) {
			t.Fatal(f, pairs, want)
		}
		if want := plainBars(f, pairs); !slices.Equal(bars, want) {
			t.Fatal(f, bars, want)
		}
		short += len(pairs) - len(bars)
		for _, b := range bars {
			if b.Death == -1 {
				ever++
			}
			if b.Dim > 1 {
				high++
			}
		}
	}
	if short < 100 || ever < 100 || high < 100 {
		t.Error("too few", short, ever, high)
	}
}

// TestMixedFaces: the numbers of faces have no part in which faces are pairs.
func TestMixedFaces(t *testing.T) {
	r := rand.New(rand.NewSource(1311))
	for range 60 {
		f := someSteps(r)
		other, from := mixed(r, f)
		pairs, bars := told(t, f)
		otherPairs, otherBars := told(t, other)
		var back [][2]int
		for _, p := range otherPairs {
			q := [2]int{from[p[0]], -1}
			if p[1] >= 0 {
				q[1] = from[p[1]]
			}
			back = append(back, q)
		}
		slices.SortFunc(back, func(a, b [2]int) int { return a[0] - b[0] })
		if !slices.Equal(back, pairs) || !slices.Equal(bars, otherBars) {
			t.Fatal(f, pairs, back, bars, otherBars)
		}
	}
}

// TestAlive: the classes at all times are chapter 5's of what is there, over two elements, and as many as bars hold the time.
func TestAlive(t *testing.T) {
	r := rand.New(rand.NewSource(1312))
	for range 120 {
		f := someSteps(r)
		_, bars := told(t, f)
		ats := []int{-1, 0, 1, 1000000, math.MinInt, math.MaxInt}
		for range 8 {
			if len(f.Times) > 0 {
				ats = append(ats, f.Times[r.Intn(len(f.Times))]-r.Intn(2))
			}
		}
		dims := 0
		for _, face := range f.Faces {
			dims = max(dims, len(face))
		}
		for _, at := range ats {
			got, held := alive(t, f, at), make([]int, dims)
			for _, b := range bars {
				if b.Birth <= at && (b.Death > at || b.Death == -1) {
					held[b.Dim]++
				}
			}
			l, err := homology.Complex(upTo(t, f, at))
			if err != nil {
				t.Fatal(err)
			}
			want, err := homology.Mod(l, 2)
			for err == nil && len(want) < dims {
				want = append(want, 0)
			}
			if err != nil || !slices.Equal(got, want) || !slices.Equal(got, held) {
				t.Fatal(f, at, got, want, held, err)
			}
		}
	}
}

func TestAliveEdges(t *testing.T) {
	f := Steps{Faces: closed([]int{0, 1, 2}), Times: []int{2, 2, 2, 4, 4, 4, 7}}
	for at, want := range map[int]string{math.MinInt: "[0 0 0]", -1: "[0 0 0]", 0: "[0 0 0]", 1: "[0 0 0]", 2: "[3 0 0]", 3: "[3 0 0]", 4: "[1 1 0]", 6: "[1 1 0]", 7: "[1 0 0]", 1000000: "[1 0 0]", math.MaxInt: "[1 0 0]"} {
		if got := alive(t, f, at); fmt.Sprint(got) != want {
			t.Error(at, got)
		}
	}
	if got := alive(t, Steps{}, 5); len(got) != 0 {
		t.Error(got)
	}
}

// TestStepsMemory: what is handed over is only read, also behind its length, and answers are new each time.
func TestStepsMemory(t *testing.T) {
	whole := []int{0, 1, -7}
	faces := [][]int{{0}, {1}, whole[:2], {-1}, nil}
	times := []int{0, 1, 5, -3}
	f := Steps{Faces: faces[:3], Times: times[:3]}
	for range 3 {
		pairs, bars := told(t, f)
		n := alive(t, f, 2)
		if got := fmt.Sprint(pairs, bars, n); got != "[[0 -1] [1 2]] [{0 0 -1} {0 1 5}] [2 0]" {
			t.Error(got)
		}
		clear(pairs)
		clear(bars)
		clear(n)
		_ = append(n, 9)
		if fmt.Sprint(faces, times, whole) != "[[0] [1] [0 1] [-1] []] [0 1 5 -3] [0 1 -7]" {
			t.Error(faces, times, whole)
		}
	}
}

// TestCallsSideBySide: calls know nothing of each other.
func TestCallsSideBySide(t *testing.T) {
	r := rand.New(rand.NewSource(1313))
	f := someSteps(r)
	pairs, bars := told(t, f)
	var all sync.WaitGroup
	for workers := 1; workers <= api.Workers; workers++ {
		all.Add(1)
		go func() {
			defer all.Done()
			p, err := Pairs(f, workers)
			b, bad := Bars(f, workers)
			if err != nil || bad != nil || !slices.Equal(p, pairs) || !slices.Equal(b, bars) {
				t.Error(workers, p, b, err, bad)
			}
		}()
	}
	all.Wait()
}

// TestSideBySide: each number is done once, and all are done when it answers.
func TestSideBySide(t *testing.T) {
	for workers := 1; workers <= 20; workers++ {
		for n := range 30 {
			done := make([]int, n)
			sideBySide(workers, n, func(i int) { done[i]++ })
			for i := range done {
				if done[i] != 1 {
					t.Fatal(workers, n, done)
				}
			}
		}
	}
}
