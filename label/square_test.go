package label

import (
	"fmt"
	"math"
	"math/rand"
	"slices"
	"testing"

	"handlebody/api"
)

// plainPlaces of a square's points.
func plainPlaces(n int) [][2]int {
	var out [][2]int
	for y := -n; y <= n; y++ {
		for x := -n; x <= n; x++ {
			out = append(out, [2]int{x, y})
		}
	}
	return out
}

// joinedPlaces: neighbours in a row or a column, and, aslant, the ends of a cut: it rises where both of its middle have one sign, else it falls.
func joinedPlaces(a, b [2]int) bool {
	dx, dy := b[0]-a[0], b[1]-a[1]
	switch dx*dx + dy*dy {
	case 1:
		return true
	case 2:
		rises, one := dx*dy > 0, (a[0]+b[0])*(a[1]+b[1]) > 0
		return rises == one
	}
	return false
}

func plainOpposite(n int, labels []int) [][2]int {
	places := plainPlaces(n)
	var out [][2]int
	for a := range places {
		for b := a + 1; b < len(places); b++ {
			if labels[a]+labels[b] == 0 && joinedPlaces(places[a], places[b]) {
				out = append(out, [2]int{a, b})
			}
		}
	}
	return out
}

// squareLabels: those of the rim's first half, and of what is inside, as they are chosen; the rim's other half, opposite.
func squareLabels(n int, choose func(at int) int) []int {
	places := plainPlaces(n)
	out := make([]int, len(places))
	for at, p := range places {
		back := slices.Index(places, [2]int{-p[0], -p[1]})
		if outer(n, p) && back < at {
			out[at] = -out[back]
		} else {
			out[at] = choose(at)
		}
	}
	return out
}

func outer(n int, p [2]int) bool {
	return max(p[0], -p[0], p[1], -p[1]) == n
}

func holdsOpposite(t *testing.T, n int, labels []int) {
	t.Helper()
	got, err := Opposite(n, labels)
	if want := plainOpposite(n, labels); err != nil || len(got) == 0 || !slices.Equal(got, want) {
		t.Fatal(n, labels, got, want, err)
	}
}

func TestOpposite(t *testing.T) {
	for name, c := range map[string]struct {
		labels []int
		want   string
	}{
		"two from the middle":     {[]int{1, 2, 2, 1, 1, -1, -2, -2, -1}, "[[4 5] [4 8]]"},
		"cuts come to the middle": {[]int{1, -2, -2, 2, 2, -2, 2, 2, -1}, "[[1 4] [2 4] [4 5]]"},
		"not across a corner":     {[]int{2, 1, 2, -1, 2, 1, -2, -1, -2}, "[[4 6] [4 8]]"},
		"on the rim alone":        {[]int{1, -1, -1, -1, 2, 1, 1, 1, -1}, "[[0 1] [0 3] [2 5] [3 6] [5 8] [7 8]]"},
	} {
		got, err := Opposite(1, c.labels)
		if fmt.Sprint(got) != c.want || err != nil {
			t.Error(name, got, err)
		}
	}
}

// TestAllSquares of n 1: each choice that there is.
func TestAllSquares(t *testing.T) {
	for number := range 1 << 10 {
		rest := number
		labels := squareLabels(1, func(int) int {
			l := []int{1, -1, 2, -2}[rest%4]
			rest /= 4
			return l
		})
		holdsOpposite(t, 1, labels)
	}
}

func TestManySquares(t *testing.T) {
	r := rand.New(rand.NewSource(113))
	for n := 1; n <= 6; n++ {
		for range 60 {
			holdsOpposite(t, n, squareLabels(n, func(int) int { return []int{1, -1, 2, -2}[r.Intn(4)] }))
		}
	}
}

// TestFewOpposites: label 1 on the right, 2 above, their opposites elsewhere; cuts decide how few are left.
func TestFewOpposites(t *testing.T) {
	for n := 1; n <= 6; n++ {
		places := plainPlaces(n)
		labels := squareLabels(n, func(at int) int {
			x, y := places[at][0], places[at][1]
			switch {
			case x > y && x >= -y:
				return 1
			case y >= x && y > -x:
				return 2
			case x < y && x <= -y:
				return -1
			}
			return -2
		})
		holdsOpposite(t, n, labels)
	}
}

func TestWrongSquares(t *testing.T) {
	for _, n := range []int{0, -1, 7, 8, 12, math.MinInt, math.MaxInt} {
		for _, labels := range [][]int{nil, {}, {9}, make([]int, 169), make([]int, 225)} {
			got, err := Opposite(n, labels)
			bare(t, err, api.ErrBound, n)
			if len(got) > 0 {
				t.Error(n, got)
			}
		}
	}
	for n := 1; n <= 6; n++ {
		well := squareLabels(n, func(int) int { return 2 })
		holdsOpposite(t, n, well)
		for _, labels := range [][]int{nil, {}, {9}, well[1:], well[:len(well)-1], append(slices.Clone(well), 1)} {
			got, err := Opposite(n, labels)
			bare(t, err, api.ErrShape, n, len(labels))
			if len(got) > 0 {
				t.Error(n, got)
			}
		}
	}
}

// TestWrongLabelsOfSquares: at each point one label is another one; on the rim, the first of two that do not fit is told.
func TestWrongLabelsOfSquares(t *testing.T) {
	for n := 1; n <= 6; n++ {
		well := squareLabels(n, func(int) int { return 1 })
		places := plainPlaces(n)
		for at, p := range places {
			back := slices.Index(places, [2]int{-p[0], -p[1]})
			for _, l := range []int{1, -1, 2, -2, 0, 3, -3, math.MinInt, math.MaxInt} {
				labels := slices.Clone(well)
				labels[at] = l
				got, err := Opposite(n, labels)
				none := l == 0 || l > 2 || l < -2
				switch {
				case outer(n, p) && l != well[at]:
					kind(t, err, min(at, back), n, p, l)
				case none:
					kind(t, err, at, n, p, l)
				case err != nil:
					t.Error(n, p, l, err)
				}
				if err != nil && len(got) > 0 {
					t.Error(n, p, l, got)
				}
			}
		}
	}
}

func TestFirstWrongLabelOfSquare(t *testing.T) {
	for name, c := range map[string]struct {
		labels []int
		at     int
	}{
		"the middle is none":                {[]int{1, 2, 2, 1, 0, -1, -2, -2, -1}, 4},
		"the first does not fit":            {[]int{1, 2, 2, 1, 1, -1, -2, -2, 1}, 0},
		"opposites that are none":           {[]int{3, 2, 2, 1, 1, -1, -2, -2, -3}, 0},
		"both 0":                            {[]int{1, 0, 2, 1, 1, -1, -2, 0, -1}, 1},
		"both the least":                    {[]int{1, 2, math.MinInt, 1, 1, -1, math.MinInt, -2, -1}, 2},
		"does not fit, then none":           {[]int{1, 2, 2, 2, 5, -1, -2, -2, -1}, 3},
		"none, then does not fit":           {[]int{1, 9, 2, 2, 1, -1, -2, -2, -1}, 1},
		"other size":                        {[]int{1, 2, 2, 1, 1, -1, -1, -2, -1}, 2},
		"none in the end: the first is not": {[]int{1, 2, 2, 1, 1, -1, -2, -2, 4}, 0},
	} {
		got, err := Opposite(1, c.labels)
		kind(t, err, c.at, name)
		if len(got) > 0 {
			t.Error(name, got)
		}
	}
}

// TestSquareMemory: what lies behind labels is not touched nor read, labels are only read, and answers are new each time.
func TestSquareMemory(t *testing.T) {
	for n := 1; n <= 6; n++ {
		well := squareLabels(n, func(at int) int { return 1 + at%2 })
		memory := append(slices.Clone(well), 1, -1, 9)
		for range 2 {
			got, err := Opposite(n, memory[:len(well)])
			if err != nil || !slices.Equal(got, plainOpposite(n, well)) {
				t.Error(n, got, err)
			}
			clear(got)
			clear(got[len(got):cap(got)])
			if !slices.Equal(memory, append(slices.Clone(well), 1, -1, 9)) {
				t.Error(n, memory)
			}
		}
	}
}
