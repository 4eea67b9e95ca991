package persist

import (
	"fmt"
	"math"
	"math/rand"
	"slices"
	"testing"

	"handlebody/api"
)

// endless: more than anything costs.
const endless = math.MaxInt

func bar(birth, death int) api.Bar { return api.Bar{Birth: birth, Death: death} }

func distance(t *testing.T, a, b []api.Bar, dim int) int {
	t.Helper()
	n, err := Distance(a, b, dim)
	back, bad := Distance(b, a, dim)
	if err != nil || bad != nil || n != back {
		t.Fatal(a, b, dim, n, err, back, bad)
	}
	return n
}

// plainMatched: twice what two cost.
func plainMatched(a, b api.Bar) int {
	births := int(math.Abs(float64(a.Birth - b.Birth)))
	if a.Death == -1 && b.Death == -1 {
		return 2 * births
	}
	if a.Death == -1 || b.Death == -1 {
		return endless
	}
	return 2 * max(births, int(math.Abs(float64(a.Death-b.Death))))
}

// plainAlone: twice what one costs that is not matched.
func plainAlone(a api.Bar) int {
	if a.Death == -1 {
		return endless
	}
	return a.Death - a.Birth
}

// plainDistance, twice, by all ways.
func plainDistance(a, b []api.Bar) int {
	if len(a) == 0 {
		out := 0
		for _, x := range b {
			out = max(out, plainAlone(x))
		}
		return out
	}
	out := max(plainAlone(a[0]), plainDistance(a[1:], b))
	for i, x := range b {
		rest := append(slices.Clone(b[:i]), b[i+1:]...)
		out = min(out, max(plainMatched(a[0], x), plainDistance(a[1:], rest)))
	}
	return out
}

// costs of all, as a table: each bar has also a shadow on the other side, at which it is alone; shadows cost nothing with each other.
func costs(a, b []api.Bar) [][]int {
	n := len(a) + len(b)
	out := make([][]int, n)
	for i := range n {
		out[i] = make([]int, n)
		for k := range n {
			switch {
			case i < len(a) && k < len(b):
				out[i][k] = plainMatched(a[i], b[k])
			case i < len(a):
				out[i][k] = endless
				if k-len(b) == i {
					out[i][k] = plainAlone(a[i])
				}
			case k < len(b):
				out[i][k] = endless
				if i-len(a) == k {
					out[i][k] = plainAlone(b[k])
				}
			}
		}
	}
	return out
}

// plainGreat: the same, of long lists: pairs are let in, the cheapest first, until all can be matched.
func plainGreat(a, b []api.Bar) int {
	table := costs(a, b)
	n := len(table)
	type edge struct{ cost, row, col int }
	var edges []edge
	for row := range n {
		for col := range n {
			edges = append(edges, edge{table[row][col], row, col})
		}
	}
	slices.SortFunc(edges, func(x, y edge) int { return x.cost - y.cost })
	rowOf := slices.Repeat([]int{-1}, n)
	next := make([][]int, n) // columns that are let in
	var grow func(row int, seen []bool) bool
	grow = func(row int, seen []bool) bool {
		for _, col := range next[row] {
			if !seen[col] {
				seen[col] = true
				if rowOf[col] < 0 || grow(rowOf[col], seen) {
					rowOf[col] = row
					return true
				}
			}
		}
		return false
	}
	out, matched := 0, 0
	for i := 0; i < len(edges) && matched < n; {
		out = edges[i].cost
		for ; i < len(edges) && edges[i].cost == out; i++ {
			next[edges[i].row] = append(next[edges[i].row], edges[i].col)
		}
		for row := range n {
			if !slices.Contains(rowOf, row) && grow(row, make([]bool, n)) {
				matched++
			}
		}
	}
	return out
}

func TestDistances(t *testing.T) {
	for name, c := range map[string]struct {
		a, b []api.Bar
		want int
	}{
		"of nothing":                {nil, nil, 0},
		"of empty lists":            {[]api.Bar{}, []api.Bar{}, 0},
		"of the same":               {[]api.Bar{bar(1, 4), bar(2, -1)}, []api.Bar{bar(2, -1), bar(1, 4)}, 0},
		"alone":                     {[]api.Bar{bar(0, 10)}, nil, 10},
		"alone, odd":                {[]api.Bar{bar(3, 10)}, nil, 7},
		"alone, the shortest":       {[]api.Bar{bar(3, 4)}, nil, 1},
		"alone, the longest":        {[]api.Bar{bar(0, 1000000)}, nil, 1000000},
		"the longest of all":        {[]api.Bar{bar(0, 1000000), bar(0, 1000000)}, []api.Bar{bar(0, 1000000)}, 1000000},
		"births":                    {[]api.Bar{bar(0, 10)}, []api.Bar{bar(3, 11)}, 6},
		"deaths":                    {[]api.Bar{bar(0, 10)}, []api.Bar{bar(1, 7)}, 6},
		"rather alone":              {[]api.Bar{bar(0, 2)}, []api.Bar{bar(50, 53)}, 3},
		"as good alone":             {[]api.Bar{bar(0, 10)}, []api.Bar{bar(5, 15)}, 10},
		"a bit better matched":      {[]api.Bar{bar(0, 10)}, []api.Bar{bar(4, 14)}, 8},
		"for ever":                  {[]api.Bar{bar(0, -1)}, []api.Bar{bar(7, -1)}, 14},
		"for ever, the farthest":    {[]api.Bar{bar(0, -1)}, []api.Bar{bar(1000000, -1)}, 2000000},
		"for ever, in their order":  {[]api.Bar{bar(0, -1), bar(10, -1)}, []api.Bar{bar(12, -1), bar(1, -1)}, 4},
		"for ever, crossed":         {[]api.Bar{bar(9, -1), bar(3, -1)}, []api.Bar{bar(8, -1), bar(4, -1)}, 2},
		"not for ever with another": {[]api.Bar{bar(0, -1), bar(5, 8)}, []api.Bar{bar(6, -1), bar(0, 1000)}, 1000},
		"a chain":                   {[]api.Bar{bar(0, 100), bar(4, 104), bar(8, 108)}, []api.Bar{bar(4, 104), bar(8, 108), bar(12, 112)}, 8},
		"the near one is another's": {[]api.Bar{bar(0, 100), bar(10, 110)}, []api.Bar{bar(9, 109), bar(25, 125)}, 30},
		"two want one":              {[]api.Bar{bar(0, 100), bar(1, 101)}, []api.Bar{bar(0, 100)}, 100},
		"long ones of both":         {[]api.Bar{bar(0, 100), bar(50, 53)}, []api.Bar{bar(2, 101), bar(20, 22)}, 4},
		"a short one helps":         {[]api.Bar{bar(0, 40), bar(10, 52)}, []api.Bar{bar(5, 46), bar(18, 55)}, 16},
		"of all kinds":              {[]api.Bar{bar(0, 10), bar(0, 4), bar(3, -1), bar(9, -1)}, []api.Bar{bar(1, 9), bar(8, -1), bar(4, -1)}, 4},
	} {
		t.Run(name, func(t *testing.T) {
			got := distance(t, c.a, c.b, 0)
			if got != c.want || plainDistance(c.a, c.b) != got || plainGreat(c.a, c.b) != got {
				t.Error(got, plainDistance(c.a, c.b), plainGreat(c.a, c.b))
			}
		})
	}
}

// someBars that end, and some for ever; reach is how late they are.
func someBars(r *rand.Rand, n, ever, reach int) []api.Bar {
	var out []api.Bar
	for range n {
		birth := r.Intn(reach)
		out = append(out, bar(birth, birth+1+r.Intn(reach-birth)))
	}
	for range ever {
		out = append(out, bar(r.Intn(reach+1), -1))
	}
	r.Shuffle(len(out), func(i, k int) { out[i], out[k] = out[k], out[i] })
	return out
}

func TestSmallDistances(t *testing.T) {
	r := rand.New(rand.NewSource(1330))
	for range 4000 {
		ever, reach := r.Intn(3), []int{2, 5, 12, 60, 1000000}[r.Intn(5)]
		a, b := someBars(r, r.Intn(5), ever, reach), someBars(r, r.Intn(5), ever, reach)
		if got, want := distance(t, a, b, 0), plainDistance(a, b); got != want {
			t.Fatal(a, b, got, want)
		}
	}
}

// moved bars: each end by at most so much, some left out, short ones put in.
func moved(r *rand.Rand, l []api.Bar, by int) []api.Bar {
	var out []api.Bar
	for _, b := range l {
		if b.Death == -1 {
			out = append(out, bar(clip(b.Birth+r.Intn(2*by+1)-by), -1))
			continue
		}
		c := bar(clip(b.Birth+r.Intn(2*by+1)-by), clip(b.Death+r.Intn(2*by+1)-by))
		if c.Death > c.Birth {
			out = append(out, c)
		}
	}
	r.Shuffle(len(out), func(i, k int) { out[i], out[k] = out[k], out[i] })
	return out
}

func clip(time int) int { return min(max(time, 0), 1000000) }

func TestGreatDistances(t *testing.T) {
	r := rand.New(rand.NewSource(1331))
	for range 25 {
		ever, reach := r.Intn(20), []int{10, 200, 1000000}[r.Intn(3)]
		a, b := someBars(r, r.Intn(41), ever, reach), someBars(r, r.Intn(41), ever, reach)
		if got, want := distance(t, a, b, 0), plainGreat(a, b); got != want {
			t.Fatal(a, b, got, want)
		}
		by := 1 + r.Intn(reach/5)
		c := moved(r, a, by)
		if got, want := distance(t, a, c, 0), plainGreat(a, c); got != want || got > 2*by {
			t.Fatal(a, c, got, want, by)
		}
	}
	a := someBars(r, 60, 0, 1000000)
	b := someBars(r, 0, 60, 1000000)
	if got := distance(t, a, moved(r, a, 1000), 0); got > 2000 {
		t.Error(got)
	}
	if got := distance(t, b, moved(r, b, 1000), 0); got > 2000 {
		t.Error(got)
	}
}

// TestLadder: 60 bars of which each is as near to two of the others; only one way is good.
func TestLadder(t *testing.T) {
	var a, b []api.Bar
	for i := range 60 {
		a = append(a, bar(10*i, 100000+10*i))
		b = append(b, bar(10*i+5, 100005+10*i))
	}
	for range 2 {
		if got := distance(t, a, b, 0); got != 10 {
			t.Error(got)
		}
		slices.Reverse(a)
	}
	for i := range b {
		b[i].Birth += 4 // 9 from its own, 1 from the next, but the last
	}
	if got := distance(t, a, b, 0); got != 18 {
		t.Error(got)
	}
}

func TestLawsOfDistance(t *testing.T) {
	r := rand.New(rand.NewSource(1332))
	for range 300 {
		ever, reach := r.Intn(4), []int{3, 40, 1000000}[r.Intn(3)]
		a, b, c := someBars(r, r.Intn(12), ever, reach), someBars(r, r.Intn(12), ever, reach), someBars(r, r.Intn(12), ever, reach)
		if distance(t, a, c, 0) > distance(t, a, b, 0)+distance(t, b, c, 0) {
			t.Error(a, b, c)
		}
		other := slices.Clone(a)
		r.Shuffle(len(other), func(i, k int) { other[i], other[k] = other[k], other[i] })
		if distance(t, a, other, 0) != 0 {
			t.Error(a, other)
		}
		slices.SortFunc(other, compareBars)
		sorted := slices.SortedFunc(slices.Values(b), compareBars)
		if !slices.Equal(other, sorted) && distance(t, a, b, 0) == 0 {
			t.Error(a, b)
		}
	}
}

// TestDimensions: bars of another dimension are not asked, be they what they may.
func TestDimensions(t *testing.T) {
	for _, dim := range []int{0, 1, 6, 7, 500, -1, math.MaxInt, math.MinInt} {
		a := []api.Bar{{Dim: dim, Birth: 2, Death: 9}, {Dim: dim ^ 1, Birth: 9, Death: 2}, {Dim: dim ^ 1, Birth: 3, Death: -1}}
		b := []api.Bar{{Dim: dim ^ 2, Birth: -5, Death: -7}}
		for range 61 {
			b = append(b, api.Bar{Dim: dim ^ 2})
		}
		b = append(b, api.Bar{Dim: dim, Birth: 3, Death: 8})
		if got := distance(t, a, b, dim); got != 2 {
			t.Error(dim, got)
		}
		if got := distance(t, a, b, dim^4); got != 0 {
			t.Error(dim, got)
		}
	}
}

func refusedBars(t *testing.T, a, b []api.Bar, dim int, want error) {
	t.Helper()
	for range 2 {
		n, err := Distance(a, b, dim)
		bare(t, err, want, a, b)
		if n != 0 {
			t.Error(a, b, n)
		}
		a, b = b, a
	}
}

func TestWrongBars(t *testing.T) {
	good := []api.Bar{bar(0, 10)}
	ever := []api.Bar{bar(0, -1)}
	for _, wrong := range []api.Bar{bar(5, 5), bar(5, 4), bar(5, 0), bar(0, 0), bar(5, -2), bar(5, math.MinInt), bar(-1, 5), bar(-1, -1), bar(-2, -1), bar(math.MinInt, 5), bar(math.MinInt, math.MaxInt), bar(1000001, -1), bar(math.MaxInt, -1), bar(0, 1000001), bar(1000000, 1000001), bar(1000000, 1000000), bar(0, math.MaxInt)} {
		for _, l := range [][]api.Bar{{wrong}, {bar(0, 3), wrong}, {wrong, bar(4, -1)}} {
			refusedBars(t, l, nil, 0, api.ErrShape) // also where ErrNone would be so
			refusedBars(t, l, good, 0, api.ErrShape)
			refusedBars(t, l, ever, 0, api.ErrShape)
			refusedBars(t, l, make([]api.Bar, 61), 0, api.ErrBound)
		}
	}
	many := someBars(rand.New(rand.NewSource(1333)), 61, 0, 100)
	refusedBars(t, many, nil, 0, api.ErrBound)
	refusedBars(t, many, many, 0, api.ErrBound)
	refusedBars(t, many, ever, 0, api.ErrBound)
	refusedBars(t, slices.Repeat(ever, 61), slices.Repeat(ever, 61), 0, api.ErrBound)
	refusedBars(t, ever, nil, 0, api.ErrNone)
	refusedBars(t, ever, good, 0, api.ErrNone)
	refusedBars(t, slices.Repeat(ever, 60), slices.Repeat(ever, 59), 0, api.ErrNone)
	if got := distance(t, slices.Repeat(ever, 60), slices.Repeat([]api.Bar{bar(1000000, -1)}, 60), 0); got != 2000000 {
		t.Error(got)
	}
	if got := distance(t, many[1:], []api.Bar{bar(1000000-1, 1000000)}, 0); got == 0 {
		t.Error(got)
	}
}

// TestBarMemory: what is handed over is only read, also behind its length.
func TestBarMemory(t *testing.T) {
	a := []api.Bar{bar(5, -1), bar(0, 9), bar(2, -1), bar(-7, -7)}
	b := []api.Bar{bar(3, -1), bar(1, -1), bar(4, 4)}
	for range 2 {
		if got := distance(t, a[:3], b[:2], 0); got != 9 {
			t.Error(got)
		}
		if fmt.Sprint(a, b) != "[{0 5 -1} {0 0 9} {0 2 -1} {0 -7 -7}] [{0 3 -1} {0 1 -1} {0 4 4}]" {
			t.Error(a, b)
		}
	}
	if got := distance(t, a[:3], a[:3], 0); got != 0 {
		t.Error(got)
	}
}
