package group

import (
	"fmt"
	"math"
	"math/rand"
	"reflect"
	"slices"
	"testing"

	"handlebody/api"
	"handlebody/smith"
)

// pow: a word, so many times.
func pow(n int, word ...int) []int { return slices.Repeat(word, n) }

// powers: each generator so many times, a relator each.
func powers(l ...int) Group {
	g := Group{Generators: len(l)}
	for i, n := range l {
		g.Relators = append(g.Relators, pow(n, i+1))
	}
	return g
}

// apart: so many letters, one a relator.
func apart(n, letter int) [][]int {
	var out [][]int
	for range n {
		out = append(out, []int{letter})
	}
	return out
}

func randomWord(r *rand.Rand, generators, length int) []int {
	var out []int
	for range length {
		out = append(out, (r.Intn(generators)+1)*(1-2*r.Intn(2)))
	}
	return out
}

func randomGroup(r *rand.Rand, generators, relators, length int) Group {
	g := Group{Generators: generators}
	for range relators {
		g.Relators = append(g.Relators, randomWord(r, generators, r.Intn(length+1)))
	}
	return g
}

// known groups, whose orders are known.
func known() map[string]struct {
	g     Group
	order int
} {
	type row = struct {
		g     Group
		order int
	}
	return map[string]row{
		"of no generators":   {Group{}, 1},
		"trivial by a word":  {powers(1), 1},
		"trivial by two":     {Group{1, [][]int{pow(5, 1), pow(3, -1)}}, 1},
		"trivial, but long":  {Group{2, [][]int{{-1, 2, 1, -2, -2}, {-2, 1, 2, -1, -1}}}, 1},
		"two":                {powers(2), 2},
		"three":              {powers(3), 3},
		"four of two":        {Group{2, [][]int{pow(2, 1), pow(2, 2), pow(2, 1, 2)}}, 4},
		"of a triangle":      {Group{2, [][]int{pow(2, 1), pow(3, 2), pow(2, 1, 2)}}, 6},
		"of quaternions":     {Group{2, [][]int{pow(4, 1), {1, 1, -2, -2}, {1, 2, 1, -2}}}, 8},
		"of four points":     {Group{3, [][]int{pow(2, 1), pow(2, 2), pow(2, 3), pow(3, 1, 2), pow(3, 2, 3), pow(2, 1, 3)}}, 24},
		"of an icosahedron":  {Group{2, [][]int{pow(2, 1), pow(3, 2), pow(5, 1, 2)}}, 60},
		"of its double":      {Group{2, [][]int{{1, 1, -2, -2, -2}, append(pow(5, 1, -2), -1, -1)}}, 120},
		"of five points":     {Group{4, [][]int{pow(2, 1), pow(2, 2), pow(2, 3), pow(2, 4), pow(3, 1, 2), pow(3, 2, 3), pow(3, 3, 4), pow(2, 1, 3), pow(2, 1, 4), pow(2, 2, 4)}}, 120},
		"of 168":             {Group{2, [][]int{pow(2, 1), pow(3, 2), pow(7, 1, 2), pow(4, 1, 2, 1, -2)}}, 168},
		"of 27 of exponent3": {Group{2, [][]int{pow(3, 1), pow(3, 2), pow(3, 1, 2), pow(3, 1, -2)}}, 27},
		"of 400":             {powers(400), 400},
		"of 20 times 20":     {Group{2, [][]int{pow(20, 1), pow(20, 2), {1, 2, -1, -2}}}, 400},
		"of 401":             {Group{2, [][]int{append(pow(20, 1), -2), append(pow(20, 2), 1)}}, -1}, // one too many
		"of 21 times 20":     {Group{2, [][]int{pow(21, 1), pow(20, 2), {1, 2, -1, -2}}}, -1},
		"without end":        {Group{Generators: 1}, -1},
		"of a torus":         {Group{2, [][]int{{1, 2, -1, -2}}}, -1},
		"of a line of dots":  {Group{2, [][]int{pow(2, 1), pow(2, 2)}}, -1},
	}
}

func TestValid(t *testing.T) {
	for name, c := range map[string]struct {
		g    Group
		want error
	}{
		"nothing":                           {Group{}, nil},
		"empty relators of nothing":         {Group{0, [][]int{nil, {}}}, nil},
		"twelve":                            {Group{Generators: 12}, nil},
		"the last letter":                   {Group{12, [][]int{{12, -12}}}, nil},
		"thirteen":                          {Group{Generators: 13}, api.ErrBound},
		"below 0":                           {Group{Generators: -1}, api.ErrBound},
		"the least":                         {Group{Generators: math.MinInt}, api.ErrBound},
		"the greatest":                      {Group{Generators: math.MaxInt}, api.ErrBound},
		"400 letters":                       {powers(400), nil},
		"401 letters":                       {powers(401), api.ErrBound},
		"400 letters of two":                {powers(100, 300), nil},
		"401 letters of two":                {powers(101, 300), api.ErrBound},
		"400 relators":                      {Group{1, apart(400, 1)}, nil},
		"400 empty relators":                {Group{1, make([][]int, 400)}, nil},
		"401 empty relators":                {Group{1, make([][]int, 401)}, api.ErrBound},
		"401 relators":                      {Group{1, apart(401, 1)}, api.ErrBound},
		"0":                                 {Group{1, [][]int{{1}, {1, 0}}}, api.ErrShape},
		"0 of nothing":                      {Group{0, [][]int{{0}}}, api.ErrShape},
		"a letter of nothing":               {Group{0, [][]int{{1}}}, api.ErrShape},
		"a letter too great":                {Group{2, [][]int{{1, 3}}}, api.ErrShape},
		"a letter too great backward":       {Group{2, [][]int{{1}, {-3}}}, api.ErrShape},
		"the greatest letter":               {Group{2, [][]int{{math.MaxInt}}}, api.ErrShape},
		"the least letter":                  {Group{2, [][]int{{math.MinInt}}}, api.ErrShape},
		"a wrong letter of thirteen":        {Group{13, [][]int{{0}}}, api.ErrBound},
		"wrong letters, and too many":       {Group{1, [][]int{make([]int, 401)}}, api.ErrBound},
		"a wrong letter in many relators":   {Group{1, append([][]int{{0}}, make([][]int, 400)...)}, api.ErrBound},
		"wrong letters, just not too many":  {Group{1, [][]int{make([]int, 400)}}, api.ErrShape},
		"a wrong letter in the last of 400": {Group{1, append(make([][]int, 399), []int{2})}, api.ErrShape},
	} {
		if err := c.g.Valid(); err != c.want {
			t.Error(name, err, c.want)
		}
		if c.want != nil {
			askErrors(t, name, c.g, c.want)
		}
	}
}

// askErrors: each call tells what Valid does, and nothing beside it.
func askErrors(t *testing.T, name string, g Group, want error) {
	t.Helper()
	a, err0 := g.Abelian()
	w, err1 := g.Without(0, -1)
	c, err2 := g.Cosets([][]int{{0}, make([]int, 500)})
	s, err3 := g.Subgroups(-7)
	for i, err := range []error{err0, err1, err2, err3} {
		if err != want {
			t.Error(name, i, err, want)
		}
	}
	if !reflect.DeepEqual(a, api.Group{}) || !reflect.DeepEqual(w, Group{}) || len(c)+len(s) > 0 {
		t.Error(name, "answers beside an error", a, w, c, s)
	}
}

// plainReduce takes out the first pair, over and over.
func plainReduce(word []int) []int {
	for i := range len(word) - 1 {
		if word[i] == -word[i+1] {
			return plainReduce(slices.Concat(word[:i], word[i+2:]))
		}
	}
	return word
}

func TestReduce(t *testing.T) {
	for _, c := range [][2][]int{
		{nil, nil},
		{{}, nil},
		{{5}, {5}},
		{{1, 1}, {1, 1}},
		{{1, -1}, nil},
		{{-1, 1}, nil},
		{{1, 2, -2, -1}, nil},
		{{1, -1, 2}, {2}},
		{{3, 1, -1, 2}, {3, 2}},
		{{1, 2, -1}, {1, 2, -1}}, // a word is not a circle
		{{1, -1, 1}, {1}},
		{{1, 2, -1, -2}, {1, 2, -1, -2}},
		{{0}, {0}},
		{{0, 0, 3}, {3}},
		{{0, 0, 0}, {0}},
		{{4, 0, 0, -4, 0}, {0}},
		{{100, -1000, 1000, -99}, {100, -99}},
		{{math.MaxInt, -math.MaxInt}, nil},
		{{math.MinInt, math.MaxInt}, {math.MinInt, math.MaxInt}},
		{{math.MinInt, math.MinInt}, {math.MinInt, math.MinInt}}, // its opposite is no int
	} {
		if got := Reduce(c[0]); !slices.Equal(got, c[1]) {
			t.Error(c, got)
		}
	}
	r := rand.New(rand.NewSource(90))
	for range 3000 {
		word := randomWord(r, 1+r.Intn(3), r.Intn(30))
		if r.Intn(2) == 0 && len(word) > 0 {
			word[r.Intn(len(word))] = 0
		}
		got := Reduce(word)
		if !slices.Equal(got, plainReduce(word)) || !slices.Equal(Reduce(got), got) {
			t.Error(word, got)
		}
	}
	long := pow(200000, 1, 2, 3)
	if got := Reduce(slices.Concat(long, opposite(long), long)); !slices.Equal(got, long) {
		t.Error("a long word", len(got))
	}
}

func TestAbelian(t *testing.T) {
	for _, c := range []struct {
		g    Group
		want string
	}{
		{Group{}, "{0 []}"},
		{Group{0, [][]int{nil}}, "{0 []}"},
		{Group{Generators: 12}, "{12 []}"},
		{Group{3, [][]int{nil, {}}}, "{3 []}"},
		{Group{2, [][]int{{1, 2, -1, -2}}}, "{2 []}"},
		{Group{2, [][]int{{1, 2, -1, 2}}}, "{1 [2]}"},
		{powers(1), "{0 []}"},
		{powers(2), "{0 [2]}"},
		{Group{1, [][]int{{-1, -1}}}, "{0 [2]}"},
		{Group{1, [][]int{{1, -1}}}, "{1 []}"},
		{powers(3, 2), "{0 [6]}"},
		{powers(4, 6), "{0 [2 12]}"},
		{powers(2, 2, 2), "{0 [2 2 2]}"},
		{powers(8, 0, 4), "{1 [4 8]}"},
		{Group{1, [][]int{pow(6, 1), pow(4, -1)}}, "{0 [2]}"},
		{Group{2, [][]int{{1, 1, 2}, {2, 2, 1}}}, "{0 [3]}"},
		{Group{2, [][]int{{1, 2, 1, 2}, {-1, -2}}}, "{1 []}"},
		{Group{2, apart(400, 1)}, "{1 []}"},
		{Group{2, slices.Concat(apart(200, 1), apart(200, -2))}, "{0 []}"},
		{Group{1, make([][]int, 400)}, "{1 []}"},
		{powers(400), "{0 [400]}"},
		{powers(200, 200), "{0 [200 200]}"},
		{known()["of five points"].g, "{0 [2]}"},
		{known()["of an icosahedron"].g, "{0 []}"},
		{known()["of quaternions"].g, "{0 [2 2]}"},
	} {
		a, err := c.g.Abelian()
		if got := fmt.Sprint(a); got != c.want || err != nil {
			t.Error(c, got, err)
		}
	}
}

// TestGreatAbelian: as large as the letters allow; no factor can be above MaxFactor, as their product is at most that of the relators' lengths, of which 12 are together at most 400.
func TestGreatAbelian(t *testing.T) {
	lengths := []int{49, 47, 43, 41, 37, 31, 29, 27, 25, 23, 19, 16}
	product := 1
	for _, n := range lengths {
		product *= n
	}
	a, err := powers(lengths...).Abelian()
	if a.Free != 0 || !slices.Equal(a.Torsion, []int{product}) || err != nil {
		t.Error(a, product, err)
	}
	all := Group{Generators: 12} // as many unlike rows as there can be
	for i := -12; i <= 12; i++ {
		if i != 0 {
			all.Relators = append(all.Relators, []int{i})
		}
	}
	for i := range 12 {
		for k := range 12 {
			if i != k && lettersOf(all.Relators) < 400 {
				all.Relators = append(all.Relators, []int{i + 1, -k - 1})
			}
			if lettersOf(all.Relators) < 400 {
				all.Relators = append(all.Relators, []int{i + 1, k + 1})
			}
		}
	}
	all.Relators = append(all.Relators, nil)
	if a, err := all.Abelian(); err != nil || fmt.Sprint(a) != "{0 []}" {
		t.Error(len(all.Relators), a, err)
	}
	all.Relators = all.Relators[24:]
	if a, err := all.Abelian(); err != nil || fmt.Sprint(a) != "{0 [2]}" {
		t.Error(len(all.Relators), a, err)
	}
}

func TestAbelianAgainstFactors(t *testing.T) {
	r := rand.New(rand.NewSource(91))
	for range 400 {
		g := randomGroup(r, 1+r.Intn(5), r.Intn(8), 12)
		m := smith.Matrix{Rows: len(g.Relators), Cols: g.Generators, L: make([]int, len(g.Relators)*g.Generators)}
		for i, word := range g.Relators {
			for _, letter := range word {
				m.L[i*m.Cols+max(letter, -letter)-1] += letter / max(letter, -letter)
			}
		}
		factors, _ := smith.Factors(m)
		want := api.Group{Free: g.Generators - len(factors)}
		for _, x := range factors {
			if x > 1 {
				want.Torsion = append(want.Torsion, x)
			}
		}
		if a, err := g.Abelian(); fmt.Sprint(a) != fmt.Sprint(want) || err != nil {
			t.Error(g, a, want, err)
		}
	}
}

func TestWithout(t *testing.T) {
	three := Group{3, [][]int{{1, 2, -3}, {2, 2, 3}, {1, -2, 1}}}
	for name, c := range map[string]struct {
		g                  Group
		generator, relator int
		want               string
		err                error
	}{
		"the last, backward":       {three, 3, 0, "{2 [[2 2 1 2] [1 -2 1]]}", nil},
		"the middle":               {three, 2, 0, "{2 [[-1 2 -1 2 2] [1 -2 1 1]]}", nil},
		"the first":                {three, 1, 0, "{2 [[1 1 2] [2 -1 -1 2 -1]]}", nil},
		"by the last relator":      {three, 2, 2, "{2 [[1 1 1 -2] [1 1 1 1 2]]}", nil},
		"by the middle relator":    {three, 3, 1, "{2 [[1 2 2 2] [1 -2 1]]}", nil},
		"alone":                    {powers(1), 1, 0, "{0 []}", nil},
		"alone, backward":          {Group{1, [][]int{{-1}}}, 1, 0, "{0 []}", nil},
		"empty ones stay":          {Group{1, [][]int{{1}, {1, 1}, nil, {-1}}}, 1, 0, "{0 [[] [] []]}", nil},
		"u and v, forward":         {Group{3, [][]int{{1, 3, 2}, {3}, {-3}, {3, 3}}}, 3, 0, "{2 [[-1 -2] [2 1] [-1 -2 -1 -2]]}", nil},
		"u and v, backward":        {Group{3, [][]int{{1, -3, 2}, {3}, {-3}, {3, 3}}}, 3, 0, "{2 [[2 1] [-1 -2] [2 1 2 1]]}", nil},
		"others are reduced, too":  {Group{3, [][]int{{1}, {2, -2, 3}, {2, 1, -2}}}, 1, 0, "{2 [[2] []]}", nil},
		"what it says is not":      {Group{3, [][]int{{1, 2, -2}, {1, 3}}}, 1, 0, "{2 [[2]]}", nil},
		"twice, else":              {three, 2, 1, "{0 []}", api.ErrOrder},
		"twice, once backward":     {Group{1, [][]int{{1, -1}}}, 1, 0, "{0 []}", api.ErrOrder},
		"both backward":            {Group{2, [][]int{{-2, 1, -2}}}, 2, 0, "{0 []}", api.ErrOrder},
		"not at all":               {three, 1, 1, "{0 []}", api.ErrOrder},
		"in an empty one":          {Group{1, [][]int{{}}}, 1, 0, "{0 []}", api.ErrOrder},
		"no generator 0":           {three, 0, 0, "{0 []}", api.ErrShape},
		"none below 0":             {three, -1, 0, "{0 []}", api.ErrShape},
		"none as great":            {three, 4, 0, "{0 []}", api.ErrShape},
		"no relator below 0":       {three, 1, -1, "{0 []}", api.ErrShape},
		"no relator as great":      {three, 1, 3, "{0 []}", api.ErrShape},
		"no relators at all":       {Group{Generators: 1}, 1, 0, "{0 []}", api.ErrShape},
		"nothing at all":           {Group{}, 0, 0, "{0 []}", api.ErrShape},
		"the least numbers":        {three, math.MinInt, math.MinInt, "{0 []}", api.ErrShape},
		"the greatest numbers":     {three, math.MaxInt, math.MaxInt, "{0 []}", api.ErrShape},
		"not there, and no number": {three, 1, 3, "{0 []}", api.ErrShape},
	} {
		h, err := c.g.Without(c.generator, c.relator)
		if got := fmt.Sprint(h); got != c.want || err != c.err {
			t.Error(name, got, err)
		}
	}
}

func TestTheBoundOfWithout(t *testing.T) {
	for _, c := range []struct {
		k, m int
		want error
	}{{20, 20, nil}, {100, 4, nil}, {4, 100, nil}, {3, 134, api.ErrBound}, {21, 20, api.ErrBound}, {1, 398, nil}, {199, 200, api.ErrBound}, {200, 199, api.ErrBound}} {
		g := Group{2, [][]int{append(pow(c.k, 2), -1), pow(c.m, 1)}} // the first is the second's power
		h, err := g.Without(1, 0)
		if err != c.want || err == nil && fmt.Sprint(h) != fmt.Sprint(powers(c.k*c.m)) || err != nil && !reflect.DeepEqual(h, Group{}) {
			t.Error(c, h, err)
		}
	}
	g := Group{2, [][]int{append(pow(50, 2), -1), pow(150, 1, -1), append(pow(8, 1), 2)}} // only what is left over counts
	if h, err := g.Without(1, 0); err != api.ErrBound {
		t.Error(h, err)
	}
	g.Relators[2][8] = -2
	want := fmt.Sprint(Group{1, [][]int{nil, pow(399, 1)}})
	if h, err := g.Without(1, 0); fmt.Sprint(h) != want || err != nil {
		t.Error(h, err)
	}
}

// plainWithout: letter by letter, by what each one becomes; false: it does not stand there just once.
func plainWithout(g Group, x, relator int) (Group, bool) {
	word := g.Relators[relator]
	if places := slices.DeleteFunc(slices.Clone(word), func(l int) bool { return l != x && l != -x }); len(places) != 1 {
		return Group{}, false
	}
	becomes := map[int][]int{}
	for i := 1; i <= g.Generators; i++ {
		name := i
		if i > x {
			name--
		}
		becomes[i], becomes[-i] = []int{name}, []int{-name}
	}
	at := max(slices.Index(word, x), slices.Index(word, -x))
	delete(becomes, x)
	delete(becomes, -x)
	sign := word[at] / x
	for i := range len(word) - 1 { // v u from its last letter on
		l := word[(at+len(word)-1-i)%len(word)]
		becomes[sign*x] = append(becomes[sign*x], becomes[-l]...)
	}
	for i := range len(word) - 1 {
		becomes[-sign*x] = append(becomes[-sign*x], becomes[word[(at+1+i)%len(word)]]...)
	}
	out := Group{Generators: g.Generators - 1}
	for i, other := range g.Relators {
		if i == relator {
			continue
		}
		var l []int
		for _, letter := range other {
			l = append(l, becomes[letter]...)
		}
		out.Relators = append(out.Relators, plainReduce(l))
	}
	return out, true
}

// TestWithoutIsTheSameGroup: as a plain version tells it, and with the same abelian group, and as many subgroups and elements.
func TestWithoutIsTheSameGroup(t *testing.T) {
	r := rand.New(rand.NewSource(93))
	done := 0
	for range 3000 {
		g := randomGroup(r, 1+r.Intn(3), 1+r.Intn(4), 7)
		x, i := 1+r.Intn(g.Generators), r.Intn(len(g.Relators))
		want, ok := plainWithout(g, x, i)
		h, err := g.Without(x, i)
		if !ok {
			if err != api.ErrOrder {
				t.Error(g, x, i, err)
			}
			continue
		}
		done++
		if err != nil || fmt.Sprint(h) != fmt.Sprint(want) {
			t.Error(g, x, i, h, want, err)
			continue
		}
		askSameGroup(t, g, h)
	}
	if done < 500 {
		t.Error("only", done)
	}
}

func askSameGroup(t *testing.T, g, h Group) {
	t.Helper()
	a, _ := g.Abelian()
	b, _ := h.Abelian()
	if fmt.Sprint(a) != fmt.Sprint(b) {
		t.Error(g, a, h, b)
	}
	for index := 1; index <= 3; index++ {
		l, _ := g.Subgroups(index)
		m, _ := h.Subgroups(index)
		if len(l) != len(m) {
			t.Error(g, h, index, len(l), len(m))
		}
	}
	l, err := g.Cosets(nil)
	m, other := h.Cosets(nil)
	if err == nil && other == nil && len(l) != len(m) {
		t.Error(g, h, len(l), len(m))
	}
}

// TestNothingIsSharedOrChanged: what is handed over stays, with what lies behind it; what is answered is nobody else's.
func TestNothingIsSharedOrChanged(t *testing.T) {
	behind := func(l ...int) []int { return append(l, 77)[:len(l)] }
	word := behind(1, 2, 3, -3)
	g := Group{3, [][]int{behind(1, 1), behind(2, 2, 2), behind(1, 2, 1, 2), behind(3), behind(3, -1, 1)}}
	words := [][]int{behind(1), behind(2, -2)}
	told := fmt.Sprint(g, words, word)
	ask := func() string {
		reduced := Reduce(word)
		a, _ := g.Abelian()
		h, _ := g.Without(3, 3)
		c, _ := g.Cosets(words)
		s, _ := g.Subgroups(3)
		before := fmt.Sprint(reduced, a, h, c, s)
		for _, lists := range append(s, h.Relators, c) {
			for i := range lists { // what is written behind a list must not show in another one
				_ = append(lists[i], 77)
			}
			_ = append(lists, []int{77})
		}
		if now := fmt.Sprint(reduced, a, h, c, s); now != before {
			t.Error("one memory", now, before)
		}
		for _, lists := range append(s, h.Relators, c, [][]int{reduced, a.Torsion}) {
			for i := range lists {
				for k := range lists[i] {
					lists[i][k] = 99
				}
			}
			clear(lists)
		}
		return before
	}
	first := ask()
	if again := ask(); again != first || fmt.Sprint(g, words, word) != told {
		t.Error(again, first, g, words, word)
	}
	for _, l := range append(slices.Concat(g.Relators, words), word) {
		if l[:len(l)+1][len(l)] != 77 {
			t.Error(l, "was written behind")
		}
	}
}
