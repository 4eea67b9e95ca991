package persist

import (
	"math/rand"
	"slices"
	"testing"

	"handlebody/api"
	"handlebody/cells"
)

func barsOf(t *testing.T, f Steps) []api.Bar {
	t.Helper()
	out, err := Bars(f, 4)
	if err != nil {
		t.Fatal(f, err)
	}
	return out
}

// shaken: other times of the same faces (by dimension), each at most so much later or earlier at first. (What waits for its parts is moved no more than they are.)
func shaken(r *rand.Rand, f Steps, by int) Steps {
	times := slices.Clone(f.Times)
	for i := range times {
		times[i] = clip(times[i] + r.Intn(2*by+1) - by)
	}
	return Steps{Faces: f.Faces, Times: delayed(f.Faces, times)}
}

func greatestDifference(a, b []int) int {
	out := 0
	for i := range a {
		out = max(out, a[i]-b[i], b[i]-a[i])
	}
	return out
}

// TestStability: P134's first law.
func TestStability(t *testing.T) {
	r := rand.New(rand.NewSource(1340))
	asFar, unlike := 0, 0
	for range 400 {
		n := 3 + r.Intn(4)
		faces := someFaces(r, n, n, 1+r.Intn(7), 120)
		if r.Intn(2) == 0 {
			faces = skeleton(r, n, 1+r.Intn(4))
		}
		reach := []int{2, 20, 1000001}[r.Intn(3)]
		f := Steps{Faces: faces, Times: someTimes(r, faces, reach)}
		g := shaken(r, f, r.Intn(reach))
		if r.Intn(4) == 0 {
			g.Times = someTimes(r, faces, reach)
		}
		most := greatestDifference(f.Times, g.Times)
		a, b := barsOf(t, f), barsOf(t, g)
		for dim := range api.MaxDim + 1 {
			d := distance(t, a, b, dim)
			if d > 2*most {
				t.Fatal(f, g.Times, dim, d, most)
			}
			if d > 0 {
				unlike++
			}
			if d > 0 && d == 2*most {
				asFar++
			}
		}
	}
	if asFar < 20 || unlike < 200 {
		t.Error("too few", asFar, unlike)
	}
}

// TestLater: where all comes later by as much, the distance is as great as it may be.
func TestLater(t *testing.T) {
	r := rand.New(rand.NewSource(1341))
	for range 50 {
		faces := someFaces(r, 6, 4, 1+r.Intn(6), 60)
		f := Steps{Faces: faces, Times: someTimes(r, faces, 100)}
		g := Steps{Faces: faces, Times: slices.Clone(f.Times)}
		for i := range g.Times {
			g.Times[i] += 7
		}
		if d := distance(t, barsOf(t, f), barsOf(t, g), 0); d != 14 {
			t.Error(f, d)
		}
	}
}

// TestEuler: P134's second law.
func TestEuler(t *testing.T) {
	r := rand.New(rand.NewSource(1342))
	for range 150 {
		f := someSteps(r)
		bars := barsOf(t, f)
		for _, at := range append(slices.Clone(f.Times), -1, 0, 1000000) {
			sum := 0
			for _, b := range bars {
				if b.Birth <= at && (b.Death == -1 || b.Death > at) {
					sum += 1 - 2*(b.Dim%2)
				}
			}
			want, err := cells.Euler(upTo(t, f, at))
			if err != nil || sum != want {
				t.Fatal(f, at, sum, want, err)
			}
		}
	}
}
