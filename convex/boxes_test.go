package convex

import (
	"math"
	"math/rand"
	"slices"
	"testing"

	"handlebody/api"
	"handlebody/cells"
)

func box(a, b, c, d int) Box { return Box{Low: at(a, b), High: at(c, d)} }

func text(t *testing.T, c cells.Complex) string {
	t.Helper()
	out, err := cells.Text(c)
	if err != nil {
		t.Fatal(c, err)
	}
	return out
}

func (b Box) has(x, y int) bool {
	return b.Low.X <= x && x <= b.High.X && b.Low.Y <= y && y <= b.High.Y
}

// owners: for each whole point up to reach, the boxes that have it. (Corners are whole, so boxes that have a point in common have a whole one.)
func owners(l []Box, reach int) (points []api.Spot, sets [][]int) {
	for y := -reach; y <= reach; y++ {
		for x := -reach; x <= reach; x++ {
			var set []int
			for i, b := range l {
				if b.has(x, y) {
					set = append(set, i)
				}
			}
			points, sets = append(points, at(x, y)), append(sets, set)
		}
	}
	return points, sets
}

// someBoxes with coordinates up to reach in size, no side longer than twice long.
func someBoxes(r *rand.Rand, n, reach, long int) []Box {
	out := make([]Box, n)
	for i, s := range someSpots(r, n, reach) {
		low := at(max(-reach, s.X-r.Intn(long+1)), max(-reach, s.Y-r.Intn(long+1)))
		high := at(min(reach, s.X+r.Intn(long+1)), min(reach, s.Y+r.Intn(long+1)))
		out[i] = Box{Low: low, High: high}
	}
	return out
}

func TestCommon(t *testing.T) {
	for name, c := range map[string]struct {
		l    []Box
		want Box
		ok   bool
	}{
		"of none":           {nil, box(-4096, -4096, 4096, 4096), true},
		"of an empty list":  {[]Box{}, box(-4096, -4096, 4096, 4096), true},
		"of one":            {[]Box{box(1, 2, 3, 4)}, box(1, 2, 3, 4), true},
		"of a point":        {[]Box{box(1, 2, 1, 2), box(0, 0, 5, 5)}, box(1, 2, 1, 2), true},
		"a rim":             {[]Box{box(0, 0, 2, 2), box(2, -1, 5, 1)}, box(2, 0, 2, 1), true},
		"a corner":          {[]Box{box(0, 0, 2, 2), box(2, 2, 5, 5)}, box(2, 2, 2, 2), true},
		"beside each other": {[]Box{box(0, 0, 2, 2), box(3, 0, 5, 2)}, Box{}, false},
		"one on another":    {[]Box{box(0, 0, 2, 2), box(0, 3, 2, 5)}, Box{}, false},
		"two of three":      {[]Box{box(0, 0, 4, 4), box(2, 2, 6, 6), box(5, 5, 8, 8)}, Box{}, false},
		"at 0":              {[]Box{box(-1, -1, 0, 0), box(0, 0, 1, 1)}, box(0, 0, 0, 0), true},
		"as far as it goes": {[]Box{box(-4096, -4096, 4096, 4096), box(4096, -4096, 4096, 4096)}, box(4096, -4096, 4096, 4096), true},
	} {
		if got, ok, err := Common(c.l); got != c.want || ok != c.ok || err != nil {
			t.Error(name, got, ok, err)
		}
	}
}

func TestManyCommons(t *testing.T) {
	r := rand.New(rand.NewSource(128))
	yes, no := 0, 0
	for range 600 {
		l := someBoxes(r, r.Intn(api.MaxPoints+1), 5, []int{3, 7, 10}[r.Intn(3)])
		got, ok, err := Common(l)
		if err != nil {
			t.Fatal(l, err)
		}
		points, sets := owners(l, 5)
		any := false
		for i, p := range points {
			inAll := len(sets[i]) == len(l)
			any = any || inAll
			if inAll != (ok && got.has(p.X, p.Y)) {
				t.Fatal(l, got, ok, p)
			}
		}
		if any != ok || !ok && got != (Box{}) || ok != eachTwo(t, l) {
			t.Fatal(l, got, ok)
		}
		if ok {
			yes++
		} else {
			no++
		}
	}
	if yes < 50 || no < 50 {
		t.Error("too few of one kind", yes, no)
	}
}

// eachTwo boxes have a point in common?
func eachTwo(t *testing.T, l []Box) bool {
	for i, a := range l {
		for _, b := range l[:i] {
			if _, ok, err := Common([]Box{a, b}); !ok || err != nil {
				return false
			}
		}
	}
	return true
}

func TestNerve(t *testing.T) {
	for name, c := range map[string]struct {
		l    []Box
		want string
	}{
		"of none":                  {nil, ""},
		"of one":                   {[]Box{box(1, 2, 3, 4)}, "0"},
		"of two":                   {[]Box{box(0, 0, 2, 2), box(2, 2, 3, 3)}, "0 1"},
		"of two, apart":            {[]Box{box(0, 0, 2, 2), box(3, 2, 4, 3)}, "0; 1"},
		"around a hole":            {[]Box{box(0, 0, 9, 1), box(8, 0, 9, 9), box(0, 8, 9, 9), box(0, 0, 1, 9)}, "0 1; 0 3; 1 2; 2 3"},
		"a path":                   {[]Box{box(0, 0, 2, 0), box(2, 0, 4, 0), box(4, 0, 6, 0)}, "0 1; 1 2"},
		"the first is in the last": {[]Box{box(1, 1, 1, 1), box(5, 5, 6, 6), box(0, 0, 2, 2)}, "0 2; 1"},
		"seven":                    {make([]Box, 7), "0 1 2 3 4 5 6"},
		"seven and five":           {append(make([]Box, 7), box(1, 1, 1, 1), box(1, 1, 2, 2), box(1, 1, 1, 1), box(0, 1, 1, 1), box(1, 1, 1, 1)), "0 1 2 3 4 5 6; 7 8 9 10 11"},
	} {
		got, err := Nerve(c.l)
		if err != nil || text(t, got) != c.want {
			t.Error(name, got, err)
		}
	}
}

// strips: as many boxes as there are, of which so many that follow each other have points in common.
func strips(n, deep int, upright bool) []Box {
	var out []Box
	for i := range n {
		if upright {
			out = append(out, box(i, -50, i+deep-1, 50))
		} else {
			out = append(out, box(-50, i, 50, i+deep-1))
		}
	}
	return out
}

// TestNerveBounds: eight boxes at one place are too many; so are more than 600 faces, whatever their dimensions.
func TestNerveBounds(t *testing.T) {
	for name, c := range map[string]struct {
		l     []Box
		faces int // 0: too many
	}{
		"eight":                 {make([]Box, 8), 0},
		"twelve":                {make([]Box, 12), 0},
		"eight, and others":     {append(strips(8, 8, true), box(40, 40, 41, 41)), 0},
		"seven at a time":       {strips(12, 7, false), 127 + 5*64},
		"eight at a time":       {strips(12, 8, false), 0},
		"three by three":        {append(strips(6, 3, true), strips(6, 3, false)...), 20*20 - 1},
		"four by three":         {append(strips(6, 4, true), strips(6, 3, false)...), 0}, // 32 * 20 - 1
		"four by three, of ten": {append(strips(5, 4, true), strips(6, 3, false)...), 24*20 - 1},
		"four by three, five":   {append(strips(6, 4, true), strips(5, 3, false)...), 32*16 - 1},
		"four by three, twelve": {append(strips(5, 4, true), strips(7, 3, false)...), 24*24 - 1},
	} {
		got, err := Nerve(c.l)
		if c.faces == 0 {
			bare(t, err, api.ErrBound, name)
			if len(got.Facets) > 0 {
				t.Error(name, got)
			}
			continue
		}
		v, vErr := cells.Vector(got)
		sum := 0
		for _, n := range v {
			sum += n
		}
		if err != nil || vErr != nil || sum != c.faces {
			t.Error(name, v, err, vErr)
		}
	}
}

func TestManyNerves(t *testing.T) {
	r := rand.New(rand.NewSource(129))
	made, refused := 0, 0
	for range 300 {
		l := someBoxes(r, r.Intn(api.MaxPoints+1), 6, []int{2, 5, 12}[r.Intn(3)])
		_, sets := owners(l, 6)
		sets = slices.DeleteFunc(sets, func(set []int) bool { return len(set) == 0 })
		want, wantErr := cells.Make(sets)
		got, err := Nerve(l)
		if err != wantErr || text(t, got) != text(t, want) {
			t.Fatal(l, got, err, want, wantErr)
		}
		if err != nil {
			refused++
		} else {
			made++
		}
	}
	if made < 50 || refused < 10 {
		t.Error("too few of one kind", made, refused)
	}
}

func refusedBoxes(t *testing.T, l []Box, want error) {
	t.Helper()
	got, ok, err := Common(l)
	bare(t, err, want, l)
	c, nerveErr := Nerve(l)
	bare(t, nerveErr, want, l)
	if got != (Box{}) || ok || len(c.Facets) > 0 {
		t.Error(l, got, ok, c)
	}
}

func TestBoxesWrong(t *testing.T) {
	wrong := []Box{box(1, 0, 0, 0), box(0, 1, 0, 0), box(1, 1, 0, 0), box(4096, 4096, -4096, -4096), box(0, 1, 9, 0), box(math.MinInt, math.MinInt, math.MaxInt, math.MaxInt)}
	for _, s := range tooFar() {
		wrong = append(wrong, Box{Low: s}, Box{High: s}, Box{Low: s, High: s})
	}
	for _, b := range wrong {
		refusedBoxes(t, []Box{b}, api.ErrShape)
		refusedBoxes(t, []Box{{}, b}, api.ErrShape)
		refusedBoxes(t, append(make([]Box, 11), b), api.ErrShape) // ahead of what Make would say
		refusedBoxes(t, append(make([]Box, 12), b), api.ErrBound)
	}
	refusedBoxes(t, make([]Box, 13), api.ErrBound)
	refusedBoxes(t, make([]Box, 1000), api.ErrBound)
	if b, ok, err := Common(make([]Box, 12)); b != (Box{}) || !ok || err != nil {
		t.Error(b, ok, err)
	}
}

// TestBoxMemory: what is handed over is only read, also behind its length, and answers are new each time.
func TestBoxMemory(t *testing.T) {
	memory := []Box{box(0, 0, 4, 4), box(3, 3, 8, 8), box(4, 0, 9, 3), box(9, 9, 8, 8)}
	before := slices.Clone(memory)
	for range 2 {
		got, err := Nerve(memory[:3])
		if err != nil || text(t, got) != "0 1 2" {
			t.Error(got, err)
		}
		clear(got.Facets[0])
		if b, ok, err := Common(memory[:3]); b != box(4, 3, 4, 3) || !ok || err != nil {
			t.Error(b, ok, err)
		}
		if !slices.Equal(memory, before) {
			t.Error(memory)
		}
	}
}
