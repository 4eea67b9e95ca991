package cover

import (
	"math"
	"math/rand"
	"slices"
	"testing"

	"handlebody/api"
	"handlebody/cells"
	"handlebody/group"
)

const factorial20 = 2432902008176640000

// stiff: three rows in a line, of which one letter changes the first two, the other one the last two; nothing can be given but each row itself.
func stiff() [][]int {
	return [][]int{{1, 1, 0, 0}, {0, 0, 2, 2}, {2, 2, 1, 1}}
}

// all of these tables side by side.
func all(tables ...[][]int) [][]int {
	var out [][]int
	for _, table := range tables {
		out = both(out, table)
	}
	return out
}

func TestDeck(t *testing.T) {
	pairs := slices.Repeat([][][]int{shifts(2, 1)}, 12)
	for name, c := range map[string]struct {
		table [][]int
		want  int
		err   error
	}{
		"one row":                           {[][]int{nil}, 1, nil},
		"one row of letters":                {still(1, 9), 1, nil},
		"two around":                        {round(2), 2, nil},
		"24 around":                         {round(24), 24, nil},
		"24 around by other letters":        {shifts(24, 0, 7, 11), 24, nil},
		"24 in two circles":                 {shifts(24, 2), 288, nil},
		"24 in eight circles":               {shifts(24, 8), 40320 * 6561, nil},
		"all by two letters":                {shifts(6, 2, 3), 6, nil},
		"in a line":                         {stiff(), 1, nil},
		"two lines":                         {both(stiff(), stiff()), 2, nil},
		"eight lines":                       {all(slices.Repeat([][][]int{stiff()}, 8)...), 40320, nil},
		"once and twice":                    {both(round(1), round(2)), 2, nil},
		"unlike circles":                    {all(round(1), round(2), round(3), round(4)), 24, nil},
		"two and three alike":               {all(round(2), round(3), round(2), round(3), round(3)), 2 * 4 * 6 * 27, nil},
		"of the same length, and alike":     {both(shifts(3, 1, 2), shifts(3, 2, 1)), 18, nil},
		"of the same length, not alike":     {both(shifts(3, 1, 1), shifts(3, 1, 2)), 9, nil},
		"one stays where one goes":          {both(shifts(2, 1, 0), shifts(2, 0, 1)), 4, nil},
		"a double one, and a single":        {both(shifts(4, 1), shifts(2, 1)), 8, nil},
		"a single one, and a double":        {both(shifts(2, 1), shifts(4, 1)), 8, nil},
		"twelve pairs":                      {all(pairs...), 479001600 * 4096, nil},
		"20 rows":                           {make([][]int, 20), factorial20, nil},
		"20 rows of letters":                {still(20, 5), factorial20, nil},
		"21 rows":                           {make([][]int, 21), 0, api.ErrBound},
		"22 rows":                           {still(22, 1), 0, api.ErrBound},
		"23 rows":                           {still(23, 1), 0, api.ErrBound},
		"24 rows":                           {make([][]int, 24), 0, api.ErrBound},
		"20 rows and a line":                {both(still(20, 2), stiff()), factorial20, nil},
		"20 rows and a pair":                {both(still(20, 1), round(2)), 0, api.ErrBound},
		"20 rows and four around":           {both(still(20, 1), round(4)), 0, api.ErrBound},
		"a pair and 20 rows":                {both(round(2), still(20, 1)), 0, api.ErrBound},
		"19 rows and five":                  {both(still(19, 1), round(5)), factorial20 / 4, nil},
		"19 rows and two pairs":             {all(still(19, 1), round(2), round(2)), factorial20 / 20 * 8, nil},
		"two pairs, each beside each other": {[][]int{{1, 1}, {0, 0}, {3, 3}, {2, 2}}, 8, nil},
	} {
		if n, err := Deck(c.table); n != c.want || err != c.err {
			t.Error(name, n, err)
		}
	}
}

func TestWrongRows(t *testing.T) {
	for name, c := range map[string]struct {
		table [][]int
		want  error
	}{
		"none":                    {nil, api.ErrBound},
		"empty":                   {[][]int{}, api.ErrBound},
		"25 rows":                 {make([][]int, 25), api.ErrBound},
		"25 wrong rows":           {append(make([][]int, 24), []int{7}), api.ErrBound},
		"24 rows, one wrong":      {append(make([][]int, 23), []int{7}), api.ErrShape},
		"half a letter":           {[][]int{{0}}, api.ErrShape},
		"a letter and a half":     {[][]int{{0, 0, 0}}, api.ErrShape},
		"a short row":             {[][]int{{0, 0, 0, 0}, {1, 1}}, api.ErrShape},
		"a long row":              {[][]int{{0, 0}, {1, 1, 1, 1}}, api.ErrShape},
		"an empty one, and more":  {[][]int{nil, {1, 1}}, api.ErrShape},
		"a number too great":      {[][]int{{1, 1}}, api.ErrShape},
		"a number below 0":        {[][]int{{0, -1}}, api.ErrShape},
		"the least number":        {[][]int{{0, math.MinInt}}, api.ErrShape},
		"the greatest number":     {[][]int{{math.MaxInt, 0}}, api.ErrShape},
		"not back":                {[][]int{{1, 0}, {0, 1}}, api.ErrShape},
		"backward as forward":     {[][]int{{1, 1}, {2, 2}, {0, 0}}, api.ErrShape},
		"two to one":              {[][]int{{0, 0}, {0, 0}}, api.ErrShape},
		"the last letter is none": {[][]int{{0, 0, 1, 1}, {1, 1, 0, 1}}, api.ErrShape},
		"21, and wrong":           {append(still(20, 1), []int{0, 0}), api.ErrShape},
	} {
		if n, err := Deck(c.table); n != 0 || err != c.want {
			t.Error(name, n, err)
		}
	}
}

// permutations of so many.
func permutations(n int) [][]int {
	if n == 0 {
		return [][]int{{}}
	}
	var out [][]int
	for _, l := range permutations(n - 1) {
		for i := range n {
			out = append(out, slices.Insert(slices.Clone(l), i, n-1))
		}
	}
	return out
}

// plainDeck: by trying all ways of giving rows.
func plainDeck(table [][]int) int {
	n := 0
	for _, gives := range permutations(len(table)) {
		ok := true
		for i, row := range table {
			for k, to := range row {
				ok = ok && table[gives[i]][k] == gives[to]
			}
		}
		if ok {
			n++
		}
	}
	return n
}

// randomTable: of permutations that are often slight, or one after the other.
func randomTable(r *rand.Rand, n, letters int) [][]int {
	out := make([][]int, n)
	for i := range out {
		out[i] = make([]int, 2*letters)
	}
	for k := range letters {
		l := r.Perm(n)
		switch r.Intn(4) {
		case 0:
			slices.Sort(l)
			a, b := r.Intn(n), r.Intn(n)
			l[a], l[b] = l[b], l[a]
		case 1:
			for i := range l {
				l[i] = i ^ 1
				if l[i] == n {
					l[i] = i
				}
			}
		case 2:
			by := r.Intn(n)
			for i := range l {
				l[i] = (i + by) % n
			}
		}
		for i, to := range l {
			out[i][2*k], out[to][2*k+1] = to, i
		}
	}
	return out
}

func TestDeckAgainstPlain(t *testing.T) {
	r := rand.New(rand.NewSource(103))
	told := map[int]int{}
	for range 1500 {
		table := randomTable(r, 1+r.Intn(6), r.Intn(4))
		want := plainDeck(table)
		told[want]++
		if n, err := Deck(table); n != want || err != nil {
			t.Error(table, n, want, err)
		}
	}
	for _, n := range []int{1, 2, 3, 4, 6, 8, 24, 48, 720} {
		if told[n] == 0 {
			t.Error("none has", n, told)
		}
	}
}

// TestDeckOfGroups: of the cosets of nothing there are as many ways as elements; of those of a subgroup, as many as it has cosets in those elements that keep it.
func TestDeckOfGroups(t *testing.T) {
	four := group.Group{Generators: 2, Relators: [][]int{{1, 1}, {2, 2, 2}, {1, 2, 1, 2, 1, 2, 1, 2}}}  // of four points: 24 elements
	eight := group.Group{Generators: 2, Relators: [][]int{{1, 1, 1, 1}, {1, 1, -2, -2}, {2, 1, -2, 1}}} // of quaternions
	for name, c := range map[string]struct {
		g     group.Group
		words [][]int
		rows  int
		want  int
	}{
		"of four points":              {four, nil, 24, 24},
		"of four points, a pair":      {four, [][]int{{1}}, 12, 2},
		"of four points, three":       {four, [][]int{{2}}, 8, 2},
		"of four points, four around": {four, [][]int{{1, 2}}, 6, 2},
		"of four points, one left":    {four, [][]int{{2}, {1, 2, 1, -2, 1}}, 4, 1},
		"of four points, the even":    {four, [][]int{{2}, {1, 2, 1}}, 2, 2},
		"of quaternions":              {eight, nil, 8, 8},
		"of quaternions, -1":          {eight, [][]int{{1, 1}}, 4, 4},
		"of quaternions, i":           {eight, [][]int{{1}}, 2, 2},
	} {
		table, err := c.g.Cosets(c.words)
		if len(table) != c.rows || err != nil {
			t.Error(name, table, err)
			continue
		}
		if n, err := Deck(table); n != c.want || err != nil {
			t.Error(name, n, err)
		}
	}
}

// TestDeckOfCoverings: as many ways as there are of giving sheets sheets, the same above each vertex (as edges of the tree want it), so that faces are given faces.
func TestDeckOfCoverings(t *testing.T) {
	r := rand.New(rand.NewSource(1030))
	for range 300 {
		c, table := randomCovering(r)
		n := len(table)
		if n > 4 {
			continue
		}
		k, err := Make(c, table)
		if err != nil {
			continue
		}
		ways := 0
		for _, gives := range permutations(n) {
			moved := make([][]int, len(k.Facets))
			for i, f := range k.Facets {
				for _, v := range f {
					moved[i] = append(moved[i], v-v%n+gives[v%n])
				}
			}
			again, err := cells.Make(moved)
			if err == nil && slices.EqualFunc(again.Facets, k.Facets, slices.Equal[[]int]) {
				ways++
			}
		}
		if got, err := Deck(table); got != ways || err != nil {
			t.Error(c, table, got, ways, err)
		}
	}
}

// TestDeckOfWideRows: letters without end are no hindrance.
func TestDeckOfWideRows(t *testing.T) {
	for _, c := range []struct {
		table [][]int
		want  int
	}{{still(12, 5000), 479001600}, {shifts(24, slices.Repeat([]int{1}, 5000)...), 24}} {
		if n, err := Deck(c.table); n != c.want || err != nil {
			t.Error(n, c.want, err)
		}
	}
}
