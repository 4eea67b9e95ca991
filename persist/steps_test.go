package persist

import (
	"fmt"
	"math"
	"math/rand"
	"slices"
	"testing"

	"handlebody/api"
)

// refused by all calls that take steps, with nothing else told.
func refused(t *testing.T, f Steps, want error) {
	t.Helper()
	before := copied(f)
	bare(t, Valid(f), want, f)
	for _, workers := range []int{1, 5, 16, 0, 17} { // steps are asked ahead of workers
		pairs, err := Pairs(f, workers)
		bare(t, err, want, f, workers)
		bars, err := Bars(f, workers)
		bare(t, err, want, f, workers)
		if len(pairs) > 0 || len(bars) > 0 {
			t.Error(f, workers, pairs, bars)
		}
	}
	for _, at := range []int{-1, 0, 7, math.MaxInt} {
		n, err := Alive(f, at)
		bare(t, err, want, f, at)
		if len(n) > 0 {
			t.Error(f, at, n)
		}
	}
	if !same(f, before) {
		t.Error("changed", f, before)
	}
}

func TestWrongSteps(t *testing.T) {
	for name, c := range map[string]struct {
		faces [][]int
		times []int
		want  error
	}{
		"too many":                      {make([][]int, 601), make([]int, 601), api.ErrBound},
		"too many, without times":       {make([][]int, 601), nil, api.ErrBound},
		"too many, with wrong times":    {make([][]int, 700), []int{-1}, api.ErrBound},
		"most that may be, none a face": {make([][]int, 600), make([]int, 600), api.ErrFace},
		"no times":                      {[][]int{{0}}, nil, api.ErrShape},
		"times alone":                   {nil, []int{0}, api.ErrShape},
		"a time less":                   {[][]int{{0}, {1}}, []int{0}, api.ErrShape},
		"a time more":                   {[][]int{{0}, {1}}, []int{0, 0, 0}, api.ErrShape},
		"a time below 0":                {[][]int{{0}, {1}}, []int{0, -1}, api.ErrShape},
		"the least time":                {[][]int{{0}}, []int{math.MinInt}, api.ErrShape},
		"a time too late":               {[][]int{{0}}, []int{1000001}, api.ErrShape},
		"the last time":                 {[][]int{{0}}, []int{math.MaxInt}, api.ErrShape},
		"a time, ahead of a face":       {[][]int{nil, {0}}, []int{0, -1}, api.ErrShape},
		"no times, ahead of a face":     {[][]int{{5, 5}}, nil, api.ErrShape},
		"a nil face":                    {[][]int{nil}, []int{0}, api.ErrFace},
		"an empty face":                 {[][]int{{0}, {}}, []int{0, 0}, api.ErrFace},
		"a vertex below 0":              {[][]int{{-1}}, []int{0}, api.ErrFace},
		"a vertex too great":            {[][]int{{100}}, []int{0}, api.ErrFace},
		"a vertex of a byte more":       {[][]int{{0}, {256}}, []int{0, 0}, api.ErrFace},
		"the greatest number":           {[][]int{{math.MaxInt}}, []int{0}, api.ErrFace},
		"the least number":              {[][]int{{math.MinInt}}, []int{0}, api.ErrFace},
		"falling":                       {[][]int{{0}, {1}, {1, 0}}, []int{0, 0, 0}, api.ErrFace},
		"a vertex twice":                {[][]int{{0}, {0, 0}}, []int{0, 0}, api.ErrFace},
		"falling behind":                {[][]int{{0}, {1}, {2}, {0, 1}, {0, 2}, {1, 2}, {0, 2, 1}}, make([]int, 7), api.ErrFace},
		"a vertex twice in the list":    {[][]int{{7}, {7}}, []int{0, 1}, api.ErrFace},
		"an edge twice":                 {[][]int{{0}, {0, 1}, {1}, {0, 1}}, []int{0, 2, 0, 3}, api.ErrFace},
		"no vertex":                     {[][]int{{0, 1}}, []int{0}, api.ErrFace},
		"the first vertex missing":      {[][]int{{1}, {0, 1}}, []int{0, 0}, api.ErrFace},
		"the last vertex missing":       {[][]int{{0, 1}, {0}}, []int{0, 0}, api.ErrFace},
		"an edge missing":               {[][]int{{0}, {1}, {2}, {0, 1}, {1, 2}, {0, 1, 2}}, make([]int, 6), api.ErrFace},
		"vertices missing, edges there": {[][]int{{0, 1}, {1, 2}, {0, 2}, {0, 1, 2}}, make([]int, 4), api.ErrFace},
		"a part missing, and too early": {[][]int{{0, 1}, {0}}, []int{0, 9}, api.ErrFace},
		"too early, then twice":         {[][]int{{0, 1}, {0}, {1}, {1}}, []int{0, 9, 9, 9}, api.ErrFace},
		"an edge too early":             {[][]int{{0, 1}, {0}, {1}}, []int{1, 1, 2}, api.ErrOrder},
		"the first part too late":       {[][]int{{0, 1}, {0}, {1}}, []int{1, 2, 1}, api.ErrOrder},
		"by most":                       {[][]int{{3}, {4}, {3, 4}}, []int{0, 1000000, 0}, api.ErrOrder},
		"a triangle too early":          {closed([]int{0, 1, 2}), []int{0, 0, 0, 1, 2, 3, 2}, api.ErrOrder},
	} {
		t.Run(name, func(t *testing.T) { refused(t, Steps{Faces: c.faces, Times: c.times}, c.want) })
	}
}

func firstVertices(n int) []int {
	var out []int
	for v := range n {
		out = append(out, v)
	}
	return out
}

// TestGreatSteps: the edges of the bounds.
func TestGreatSteps(t *testing.T) {
	whole := closed(firstVertices(api.MaxDim + 2)) // dimension 7: 255 faces
	refused(t, Steps{Faces: whole, Times: make([]int, len(whole))}, api.ErrFace)
	refused(t, Steps{Faces: [][]int{firstVertices(100)}, Times: []int{0}}, api.ErrFace)
	refused(t, Steps{Faces: [][]int{make([]int, 1000000)}, Times: []int{0}}, api.ErrFace)
	rim := whole[:len(whole)-1]
	if err := Valid(Steps{Faces: rim, Times: make([]int, len(rim))}); err != nil {
		t.Error(err)
	}
	faces := great()
	if err := Valid(Steps{Faces: faces, Times: make([]int, 600)}); len(faces) != 600 || err != nil {
		t.Error(len(faces), err)
	}
	more := append(faces, []int{98, 99})
	refused(t, Steps{Faces: more, Times: make([]int, 601)}, api.ErrBound)
	for _, f := range []Steps{{}, {Faces: [][]int{}, Times: []int{}}, {Faces: [][]int{{0}}, Times: []int{0}}, {Faces: [][]int{{99}}, Times: []int{1000000}}} {
		if err := Valid(f); err != nil {
			t.Error(f, err)
		}
	}
}

// great: 100 vertices, and the first 500 edges.
func great() [][]int {
	var out [][]int
	for v := range 100 {
		out = append(out, []int{v})
	}
	for a := range 100 {
		for b := a + 1; b < 100; b++ {
			if len(out) < 600 {
				out = append(out, []int{a, b})
			}
		}
	}
	return out
}

// plainError of steps, as P130 has it, by all parts of all faces. (Numbers stay near to what they may be.)
func plainError(f Steps) error {
	if len(f.Faces) > 600 {
		return api.ErrBound
	}
	if len(f.Times) != len(f.Faces) {
		return api.ErrShape
	}
	when := map[string]int{}
	for i, t := range f.Times {
		if t < 0 || t > 1000000 {
			return api.ErrShape
		}
		when[fmt.Sprint(f.Faces[i])] = t
	}
	early := false
	for i, face := range f.Faces {
		for k, v := range face {
			if v < 0 || v > 99 || k > 0 && face[k-1] >= v {
				return api.ErrFace
			}
		}
		if len(face) == 0 || len(face) > 7 {
			return api.ErrFace
		}
		for _, part := range closed(face) {
			time, there := when[fmt.Sprint(part)]
			if !there {
				return api.ErrFace
			}
			early = early || time > f.Times[i]
		}
	}
	if len(when) < len(f.Faces) {
		return api.ErrFace
	}
	if early {
		return api.ErrOrder
	}
	return nil
}

// spoil steps a little, so that some errors are one step away.
func spoil(r *rand.Rand, f *Steps) {
	i := r.Intn(len(f.Faces))
	switch r.Intn(8) {
	case 0:
		f.Times[i] = r.Intn(31)
	case 1:
		f.Times[i] += r.Intn(3) - 1
	case 2:
		f.Faces, f.Times = slices.Delete(f.Faces, i, i+1), slices.Delete(f.Times, i, i+1)
	case 3:
		f.Faces, f.Times = append(f.Faces, slices.Clone(f.Faces[i])), append(f.Times, f.Times[i])
	case 4:
		f.Faces[i][r.Intn(len(f.Faces[i]))] += r.Intn(5) - 2
	case 5:
		slices.Reverse(f.Faces[i])
	case 6:
		f.Times[i] = []int{-1, 0, 1000000, 1000001}[r.Intn(4)]
	case 7:
		f.Times = f.Times[:len(f.Times)-1]
	}
}

func TestSpoiltSteps(t *testing.T) {
	r := rand.New(rand.NewSource(1300))
	seen := map[error]int{}
	for range 6000 {
		f := copied(someSteps(r))
		if len(f.Faces) > 40 {
			continue
		}
		for range r.Intn(3) {
			if len(f.Faces) > 0 && len(f.Times) == len(f.Faces) && !slices.ContainsFunc(f.Faces, func(l []int) bool { return len(l) == 0 }) {
				spoil(r, &f)
			}
		}
		want := plainError(f)
		seen[want]++
		bare(t, Valid(f), want, f)
		if want != nil && seen[want] < 20 {
			refused(t, f, want)
		}
	}
	for _, e := range []error{nil, api.ErrShape, api.ErrFace, api.ErrOrder} {
		if seen[e] < 100 {
			t.Error("too few of", e, seen[e])
		}
	}
}
