package label

import (
	"fmt"
	"math"
	"slices"
	"testing"

	"handlebody/api"
)

// wrongParts: no numbers of parts.
func wrongParts() []int { return []int{0, -1, 13, 14, -13, math.MinInt, math.MaxInt} }

// bare: just this error, nothing around it.
func bare(t *testing.T, err, want error, about ...any) {
	t.Helper()
	if err != want {
		t.Error(append(about, err, want)...)
	}
}

// kind: a fault of ErrKind at a place.
func kind(t *testing.T, err error, at int, about ...any) {
	t.Helper()
	if f, ok := err.(*api.Fault); !ok || *f != (api.Fault{At: at, Err: api.ErrKind}) {
		t.Error(append(about, err, at, f)...)
	}
}

func TestPoints(t *testing.T) {
	for i, want := range []int{3, 6, 10, 15, 21, 28, 36, 45, 55, 66, 78, 91} {
		if got, err := Points(i + 1); got != want || err != nil {
			t.Error(i+1, got, err)
		}
	}
	for _, n := range wrongParts() {
		got, err := Points(n)
		bare(t, err, api.ErrBound, n)
		if got != 0 {
			t.Error(n, got)
		}
	}
}

func TestSmall(t *testing.T) {
	for n, want := range map[int]string{
		1: "[[0 1 2]]",
		2: "[[0 1 3] [1 2 4] [1 3 4] [3 4 5]]",
		3: "[[0 1 4] [1 2 5] [1 4 5] [2 3 6] [2 5 6] [4 5 7] [5 6 8] [5 7 8] [7 8 9]]",
	} {
		got, err := Small(n)
		if fmt.Sprint(got) != want || err != nil {
			t.Error(n, got, err)
		}
	}
	for n := 1; n <= api.MaxParts; n++ {
		got, err := Small(n)
		if want := plainTriangle(n).small; !slices.Equal(got, want) || len(got) != n*n || err != nil {
			t.Error(n, got, want, err)
		}
	}
	for _, n := range wrongParts() {
		got, err := Small(n)
		bare(t, err, api.ErrBound, n)
		if len(got) > 0 {
			t.Error(n, got)
		}
	}
}

// asked: Check's error, when Full and Walk tell the same one and nothing else.
func asked(t *testing.T, n int, labels []int) error {
	t.Helper()
	err := Check(n, labels)
	numbers, fullErr := Full(n, labels)
	way, walkErr := Walk(n, labels)
	for _, other := range []error{fullErr, walkErr} {
		if fmt.Sprintf("%T %+v", err, told(err)) != fmt.Sprintf("%T %+v", other, told(other)) {
			t.Error(n, labels, err, other)
		}
	}
	if err != nil && len(numbers)+len(way) > 0 {
		t.Error(n, labels, err, numbers, way)
	}
	return err
}

// told: what is in a fault.
func told(err error) any {
	if f, ok := err.(*api.Fault); ok {
		return *f
	}
	return err
}

// first label that each point may have: all are well.
func first(n int) []int {
	var out []int
	for _, p := range plainTriangle(n).points {
		out = append(out, allowed(p)[0])
	}
	return out
}

func TestCheckBoundsAndShapes(t *testing.T) {
	for _, n := range wrongParts() {
		for _, labels := range [][]int{nil, {}, {7}, {2, 1, 0}, first(12)} {
			bare(t, asked(t, n, labels), api.ErrBound, n, len(labels))
		}
	}
	for n := 1; n <= api.MaxParts; n++ {
		well := first(n)
		bare(t, asked(t, n, well), nil, n)
		for _, labels := range [][]int{nil, {}, {9}, well[1:], well[:len(well)-1], append(slices.Clone(well), 0), make([]int, 3*len(well))} {
			bare(t, asked(t, n, labels), api.ErrShape, n, len(labels))
		}
	}
}

// TestCheckEachLabel: at each point, all that may stand there and all that may not.
func TestCheckEachLabel(t *testing.T) {
	for n := 1; n <= api.MaxParts; n++ {
		well := first(n)
		for at, p := range plainTriangle(n).points {
			for _, l := range []int{0, 1, 2, 3, 4, -1, -2, math.MinInt, math.MaxInt} {
				labels := slices.Clone(well)
				labels[at] = l
				if slices.Contains(allowed(p), l) {
					bare(t, Check(n, labels), nil, n, p, l)
				} else {
					kind(t, asked(t, n, labels), at, n, p, l)
				}
			}
		}
	}
}

func TestCheckFirstFault(t *testing.T) {
	for name, c := range map[string]struct {
		n      int
		labels []int
		at     int
	}{
		"all wrong":              {1, []int{0, 0, 1}, 0},
		"the last alone":         {1, []int{2, 1, 2}, 2},
		"none, then not there":   {1, []int{2, 5, 1}, 1},
		"not there, then none":   {1, []int{1, 5, 0}, 0},
		"a corner with its j 0":  {2, []int{2, 1, 1, 0, 0, 1}, 5},
		"a side with its i 0":    {2, []int{2, 0, 1, 0, 0, 0}, 1},
		"a side with its j 0":    {2, []int{2, 1, 1, 1, 0, 0}, 3},
		"a side with its k 0":    {2, []int{2, 1, 1, 0, 2, 0}, 4},
		"two sides":              {2, []int{2, 1, 1, 1, 2, 0}, 3},
		"the middle":             {3, []int{2, 2, 2, 1, 2, 3, 1, 2, 1, 0}, 5},
		"the middle, below 0":    {3, []int{2, 2, 2, 1, 2, -1, 1, 2, 1, 0}, 5},
		"ahead of the middle":    {3, []int{2, 2, 2, 1, 1, 3, 1, 2, 1, 0}, 4},
		"behind the middle":      {3, []int{2, 2, 2, 1, 2, 0, 2, 2, 1, 0}, 6},
		"a middle may have none": {3, []int{2, 2, 2, 1, 2, math.MinInt, 1, 2, 1, 0}, 5},
	} {
		kind(t, asked(t, c.n, c.labels), c.at, name)
	}
}

func TestFullAndWalk(t *testing.T) {
	for name, c := range map[string]struct {
		n         int
		labels    []int
		full, way string
	}{
		"one triangle":        {1, []int{2, 1, 0}, "[0]", "[0]"},
		"far":                 {2, []int{2, 1, 1, 0, 0, 0}, "[0]", "[1 2 0]"},
		"at once":             {2, []int{2, 2, 1, 0, 0, 0}, "[1]", "[1]"},
		"at once, at (n,0,0)": {2, []int{2, 2, 1, 2, 1, 0}, "[3]", "[3]"},
		"the second":          {2, []int{2, 2, 1, 0, 1, 0}, "[2]", "[3 2]"},
		"far, from the other": {2, []int{2, 1, 1, 0, 1, 0}, "[0]", "[3 2 0]"},
		"five of nine":        {3, []int{2, 1, 2, 1, 2, 0, 0, 2, 1, 0}, "[1 2 3 7 8]", "[8]"},
		// (3,0,0) 0, (2,1,0) 1, (1,2,0) 0, (0,3,0) 1: three doors; by the first two one goes around (2,1,0)
		"first doors lead out": {3, []int{2, 2, 2, 1, 0, 0, 0, 0, 1, 0}, "[3]", "[3]"},
		// the same side; (1,1,1) is 1: by the first door one goes far, and the others lead out
		"last doors lead out": {3, []int{2, 1, 1, 1, 0, 1, 0, 0, 1, 0}, "[0]", "[8 7 5 2 0]"},
		// one full triangle at each of three doors: the nearest counts
		"three doors, each its own": {3, []int{2, 2, 2, 1, 2, 2, 0, 2, 1, 0}, "[3 6 8]", "[8]"},
	} {
		got, err := Full(c.n, c.labels)
		if fmt.Sprint(got) != c.full || err != nil {
			t.Error(name, "full", got, err)
		}
		way, err := Walk(c.n, c.labels)
		if fmt.Sprint(way) != c.way || err != nil {
			t.Error(name, "walk", way, err)
		}
	}
}

// TestMemory: what lies behind labels is not touched nor read, labels are only read, and answers are new each time.
func TestMemory(t *testing.T) {
	for n := 1; n <= api.MaxParts; n++ {
		memory := append(first(n), 7, 7, 7, 7)
		labels := memory[:len(memory)-4]
		before := slices.Clone(memory)
		for range 2 {
			s, err := Small(n)
			if err != nil || !slices.Equal(s, plainTriangle(n).small) {
				t.Error(n, s, err)
			}
			clear(s)
			f, err := Full(n, labels)
			if err != nil || !slices.Equal(f, plainTriangle(n).full(labels)) {
				t.Error(n, f, err)
			}
			clear(f)
			w, err := Walk(n, labels)
			if err != nil || !slices.Equal(w, plainTriangle(n).walk(labels)) {
				t.Error(n, w, err)
			}
			clear(w)
			for _, l := range []int{-5, 0, 5} {
				for i := range 4 {
					before[len(labels)+i], memory[len(labels)+i] = l, l
				}
				bare(t, Check(n, labels), nil, n)
			}
			if !slices.Equal(memory, before) {
				t.Error(n, memory, before)
			}
		}
	}
}
