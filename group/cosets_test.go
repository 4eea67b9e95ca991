package group

import (
	"fmt"
	"math"
	"math/rand"
	"slices"
	"testing"

	"handlebody/api"
)

func TestCosetsOfKnownGroups(t *testing.T) {
	for name, c := range known() {
		l, err := c.g.Cosets(nil)
		switch {
		case c.order < 0 && (err != api.ErrBound || len(l) > 0):
			t.Error(name, len(l), err)
		case c.order > 0 && (err != nil || len(l) != c.order):
			t.Error(name, len(l), c.order, err)
		case c.order > 0:
			askTable(t, c.g, l)
		}
	}
}

// askTable: each letter leads back by its opposite, each relator leads back, and rows are numbered as they are led to.
func askTable(t *testing.T, g Group, rows [][]int) {
	t.Helper()
	next := 1
	for i, row := range rows {
		if len(row) != 2*g.Generators {
			t.Fatal(g, "a row", row)
		}
		for k, to := range row {
			if to < 0 || to > next || to >= len(rows) || rows[to][k^1] != i {
				t.Fatal(g, rows, "at", i, k)
			}
			next = max(next, to+1)
		}
		for _, word := range g.Relators {
			if led(rows, i, word) != i {
				t.Fatal(g, rows, word, "from", i)
			}
		}
	}
	if next != len(rows) {
		t.Fatal(g, rows, "are not all led to")
	}
}

func led(rows [][]int, from int, word []int) int {
	for _, letter := range word {
		if letter > 0 {
			from = rows[from][2*letter-2]
		} else {
			from = rows[from][-2*letter-1]
		}
	}
	return from
}

func TestCosets(t *testing.T) {
	triangle := known()["of a triangle"].g
	for name, c := range map[string]struct {
		g     Group
		words [][]int
		want  string
	}{
		"nothing":                    {Group{}, nil, "[[]]"},
		"nothing of nothing":         {Group{}, [][]int{nil, {}}, "[[]]"},
		"three":                      {powers(3), nil, "[[1 2] [2 0] [0 1]]"},
		"three, backward":            {Group{1, [][]int{pow(3, -1)}}, nil, "[[1 2] [2 0] [0 1]]"},
		"four":                       {powers(4), nil, "[[1 2] [3 0] [0 3] [2 1]]"},
		"all":                        {Group{Generators: 1}, [][]int{{1}}, "[[0 0]]"},
		"all, backward":              {Group{Generators: 1}, [][]int{{-1}}, "[[0 0]]"},
		"every second":               {Group{Generators: 1}, [][]int{{1, 1}}, "[[1 1] [0 0]]"},
		"every second of six":        {powers(6), [][]int{pow(2, -1)}, "[[1 1] [0 0]]"},
		"by two words":               {Group{Generators: 1}, [][]int{pow(6, 1), pow(4, -1)}, "[[1 1] [0 0]]"},
		"a word that says nothing":   {powers(3), [][]int{{1, 1, -1, -1}, nil}, "[[1 2] [2 0] [0 1]]"},
		"two of them":                {powers(1, 2), nil, "[[0 0 1 1] [1 1 0 0]]"},
		"of a triangle's side":       {triangle, [][]int{{1}}, "[[0 0 1 2] [2 2 2 0] [1 1 0 1]]"},
		"of a triangle's other side": {triangle, [][]int{{2, 1}}, "[[1 1 1 2] [0 0 2 0] [2 2 0 1]]"},
		"of its turns":               {triangle, [][]int{{2}}, "[[1 1 0 0] [0 0 1 1]]"},
		"of all of it":               {triangle, [][]int{{1}, {2}}, "[[0 0 0 0]]"},
		"of a triangle":              {triangle, nil, "[[1 1 2 3] [0 0 4 5] [5 5 3 0] [4 4 0 2] [3 3 5 1] [2 2 1 4]]"},
	} {
		l, err := c.g.Cosets(c.words)
		if got := fmt.Sprint(l); got != c.want || err != nil {
			t.Error(name, got, err)
		}
	}
}

func TestWrongWords(t *testing.T) {
	free := Group{Generators: 2}
	for name, c := range map[string]struct {
		g     Group
		words [][]int
		want  error
	}{
		"400 words":                     {powers(3), make([][]int, 400), nil},
		"401 words":                     {powers(3), make([][]int, 401), api.ErrBound},
		"400 letters":                   {powers(3), [][]int{pow(399, 1), {1}}, nil},
		"401 letters":                   {powers(3), [][]int{pow(400, 1), {1}}, api.ErrBound},
		"0":                             {free, [][]int{{1}, {0}}, api.ErrShape},
		"too great":                     {free, [][]int{{1}, {2, 3}}, api.ErrShape},
		"too great backward":            {free, [][]int{{-3}}, api.ErrShape},
		"the least":                     {free, [][]int{{math.MinInt}}, api.ErrShape},
		"the greatest":                  {free, [][]int{{math.MaxInt}}, api.ErrShape},
		"of nothing":                    {Group{}, [][]int{{1}}, api.ErrShape},
		"too many words, and a wrong":   {free, append(make([][]int, 400), []int{3}), api.ErrBound},
		"too many letters, and a wrong": {free, [][]int{pow(401, 3)}, api.ErrBound},
		"without end":                   {free, [][]int{{1}}, api.ErrBound},
	} {
		l, err := c.g.Cosets(c.words)
		if err != c.want || err != nil && len(l) > 0 {
			t.Error(name, l, err)
		}
	}
}

// TestTheBoundOfRows. The subgroup's word opens as many as it has letters, so that the second generator goes around from 0. Then 0 opens n by the first relator (the last one is 0 again), and each of the n - 1 others m by the second relator, which are all the same by the third one. 0 itself is one.
func TestTheBoundOfRows(t *testing.T) {
	const n, m = 50, 98
	g := Group{2, [][]int{pow(n, 1), pow(m, 2), {2}}}
	most := api.MaxRows - 1 - n - (n-1)*m
	for _, c := range []struct {
		letters int
		want    error
	}{{1, nil}, {most - 1, nil}, {most, nil}, {most + 1, api.ErrBound}, {most + 2, api.ErrBound}, {400, api.ErrBound}} {
		l, err := g.Cosets([][]int{pow(c.letters, 2)})
		if err != c.want || err == nil && len(l) != n || err != nil && len(l) > 0 {
			t.Error(c, len(l), err)
		}
	}
}

// plainCosets as the document's words go: what leads where stands in a list of arrows, and sameness is looked for in all of them over and over; false: more than so many would be opened.
type plainCosets struct {
	arrows map[[2]int]int
	stands []int
	most   int
}

func (p *plainCosets) step(from, letter int) bool {
	if _, ok := p.arrows[[2]int{from, letter}]; ok {
		return true
	}
	if len(p.stands) == p.most {
		return false
	}
	next := len(p.stands)
	p.stands = append(p.stands, next)
	p.arrows[[2]int{from, letter}] = next
	p.arrows[[2]int{next, -letter}] = from
	return true
}

// settle: all arrows anew, until no letter leads to two.
func (p *plainCosets) settle() {
	for again := true; again; {
		again = false
		arrows := map[[2]int]int{}
		for key, to := range p.arrows {
			key[0], to = p.stands[key[0]], p.stands[to]
			if old, ok := arrows[key]; ok && old != to {
				p.rename(max(old, to), min(old, to))
				again = true
			}
			arrows[key] = to
		}
		if !again {
			p.arrows = arrows
		}
	}
}

func (p *plainCosets) rename(a, b int) {
	for i := range p.stands {
		if p.stands[i] == a {
			p.stands[i] = b
		}
	}
}

func (p *plainCosets) trace(from int, word []int) bool {
	from = p.stands[from]
	at := from
	for _, letter := range word {
		if !p.step(at, letter) {
			return false
		}
		at = p.arrows[[2]int{at, letter}]
	}
	if at != from {
		p.rename(max(at, from), min(at, from))
		p.settle()
	}
	return true
}

// run: how it all is done.
func (p *plainCosets) run(g Group, words [][]int) bool {
	for _, word := range words {
		if !p.trace(0, word) {
			return false
		}
	}
	for n := 0; n < len(p.stands); n++ {
		if p.stands[n] != n {
			continue
		}
		for _, word := range g.Relators {
			if !p.trace(n, word) {
				return false
			}
		}
		for i := range g.Generators {
			if !p.step(p.stands[n], i+1) || !p.step(p.stands[n], -i-1) {
				return false
			}
		}
	}
	return true
}

func (p *plainCosets) told(generators int) [][]int {
	names, order := map[int]int{0: 0}, []int{0}
	var out [][]int
	for i := 0; i < len(order); i++ {
		row := []int{}
		for column := range 2 * generators {
			to := p.arrows[[2]int{order[i], (column/2 + 1) * (1 - 2*(column%2))}]
			if _, ok := names[to]; !ok {
				names[to] = len(order)
				order = append(order, to)
			}
			row = append(row, names[to])
		}
		out = append(out, row)
	}
	return out
}

func TestCosetsAgainstPlain(t *testing.T) {
	r := rand.New(rand.NewSource(94))
	sizes := map[int]int{}
	for range 1500 {
		g := randomGroup(r, 1+r.Intn(3), 1+r.Intn(5), 9)
		for i := range g.Generators {
			if r.Intn(2) == 0 {
				g.Relators = append(g.Relators, pow(2+r.Intn(3), i+1))
			}
		}
		var words [][]int
		for range r.Intn(3) {
			words = append(words, randomWord(r, g.Generators, r.Intn(6)))
		}
		p := plainCosets{map[[2]int]int{}, []int{0}, 250}
		if !p.run(g, words) {
			continue // too long a way for a plain one
		}
		want := p.told(g.Generators)
		l, err := g.Cosets(words)
		if err != nil || !slices.EqualFunc(l, want, slices.Equal[[]int]) {
			t.Error(g, words, l, want, err)
			continue
		}
		sizes[min(len(l), 5)]++
		askTable(t, g, l)
		for _, word := range words {
			if led(l, 0, word) != 0 {
				t.Error(g, words, "is none of its subgroup")
			}
		}
	}
	for i := 1; i <= 5; i++ {
		if sizes[i] < 5 {
			t.Error("too few of", i, sizes)
		}
	}
}

// TestRowsOpenedAgainstPlain: how many are opened on the way, on which the bound hangs.
func TestRowsOpenedAgainstPlain(t *testing.T) {
	for name, c := range known() {
		if c.order < 1 || c.order > 60 {
			continue
		}
		for _, words := range [][][]int{nil, {pow(3, 1), {1}}} {
			if c.g.Generators == 0 {
				words = nil
			}
			p := plainCosets{map[[2]int]int{}, []int{0}, 1000}
			if !p.run(c.g, words) {
				t.Error(name, words)
			}
			o := begin(c.g.Generators)
			ok := o.traceAll(0, words) && o.fill(func(coset int) bool {
				return o.traceAll(coset, c.g.Relators) && o.openAll(coset)
			})
			if !ok || len(o.rows) != len(p.stands) {
				t.Error(name, words, len(o.rows), len(p.stands))
			}
		}
	}
}

func TestSubgroups(t *testing.T) {
	triangle := known()["of a triangle"].g
	for name, c := range map[string]struct {
		g     Group
		index int
		want  string
	}{
		"nothing":               {Group{}, 1, "[[[]]]"},
		"two of nothing":        {Group{}, 2, "[]"},
		"all of two letters":    {Group{Generators: 2}, 1, "[[[0 0 0 0]]]"},
		"all of a triangle":     {triangle, 1, "[[[0 0 0 0]]]"},
		"every second":          {Group{Generators: 1}, 2, "[[[1 1] [0 0]]]"},
		"every third":           {Group{Generators: 1}, 3, "[[[1 2] [2 0] [0 1]]]"},
		"every fourth":          {Group{Generators: 1}, 4, "[[[1 2] [3 0] [0 3] [2 1]]]"},
		"every second of three": {powers(3), 2, "[]"},
		"every second of four":  {powers(4), 2, "[[[1 1] [0 0]]]"},
		"halves of two letters": {Group{Generators: 2}, 2, "[[[0 0 1 1] [1 1 0 0]] [[1 1 0 0] [0 0 1 1]] [[1 1 1 1] [0 0 0 0]]]"},
		"sides of a triangle":   {triangle, 3, "[[[0 0 1 2] [2 2 2 0] [1 1 0 1]] [[1 1 1 2] [0 0 2 0] [2 2 0 1]] [[1 1 2 1] [0 0 0 2] [2 2 1 0]]]"},
		"turns of a triangle":   {triangle, 2, "[[[1 1 0 0] [0 0 1 1]]]"},
		"quarter of a triangle": {triangle, 4, "[]"},
	} {
		l, err := c.g.Subgroups(c.index)
		if got := fmt.Sprint(l); got != c.want || err != nil {
			t.Error(name, got, err)
		}
	}
}

func TestCountsOfSubgroups(t *testing.T) {
	torus := Group{2, [][]int{{1, 2, -1, -2}}}
	for _, c := range []struct {
		g        Group
		index, n int
	}{
		{Group{Generators: 2}, 3, 13},
		{Group{Generators: 2}, 4, 71},
		{Group{Generators: 3}, 2, 7},
		{Group{Generators: 3}, 3, 97},
		{Group{Generators: 3}, 4, 2143},
		{Group{Generators: 12}, 1, 1},
		{Group{Generators: 12}, 2, 4095},
		{torus, 2, 3},
		{torus, 3, 4},
		{torus, 4, 7},
		{known()["of four points"].g, 2, 1},
		{known()["of four points"].g, 3, 3},
		{known()["of four points"].g, 4, 4},
		{known()["of quaternions"].g, 2, 3},
		{known()["of quaternions"].g, 4, 1},
		{known()["of an icosahedron"].g, 4, 0},
	} {
		l, err := c.g.Subgroups(c.index)
		if len(l) != c.n || err != nil {
			t.Error(c, len(l), err)
		}
	}
}

func TestTheBoundOfSubgroups(t *testing.T) {
	for _, c := range []struct {
		generators, index int
		want              error
	}{
		{0, 0, api.ErrBound}, {0, -1, api.ErrBound}, {0, 5, api.ErrBound}, {1, math.MinInt, api.ErrBound}, {1, math.MaxInt, api.ErrBound},
		{0, 4, nil}, {12, 1, nil}, {12, 2, nil},
		{5, 3, nil}, {6, 3, api.ErrBound}, {12, 3, api.ErrBound},
		{3, 4, nil}, {4, 4, api.ErrBound}, {12, 4, api.ErrBound},
	} {
		l, err := Group{Generators: c.generators}.Subgroups(c.index)
		if err != c.want || err != nil && len(l) > 0 {
			t.Error(c, len(l), err)
		}
	}
}

// permutations of so many.
func permutations(n int) [][]int {
	if n == 0 {
		return [][]int{{}}
	}
	var out [][]int
	for _, l := range permutations(n - 1) {
		for i := range n {
			out = append(out, slices.Insert(slices.Clone(l), i, n-1))
		}
	}
	return out
}

// plainSubgroups: by trying all permutations of all generators.
func plainSubgroups(g Group, index int) [][][]int {
	var out [][][]int
	chosen := make([][]int, g.Generators)
	var choose func(i int)
	choose = func(i int) {
		if i < g.Generators {
			for _, p := range permutations(index) {
				chosen[i] = p
				choose(i + 1)
			}
			return
		}
		p := plainCosets{arrows: map[[2]int]int{}}
		for k, l := range chosen {
			for from, to := range l {
				p.arrows[[2]int{from, k + 1}], p.arrows[[2]int{to, -k - 1}] = to, from
			}
		}
		rows := p.told(g.Generators)
		if len(rows) < index {
			return // not all are led to from 0
		}
		for from := range rows {
			for _, word := range g.Relators {
				if led(rows, from, word) != from {
					return
				}
			}
		}
		out = append(out, rows)
	}
	choose(0)
	slices.SortFunc(out, func(a, b [][]int) int { return slices.Compare(slices.Concat(a...), slices.Concat(b...)) })
	return slices.CompactFunc(out, func(a, b [][]int) bool { return fmt.Sprint(a) == fmt.Sprint(b) })
}

func TestSubgroupsAgainstPlain(t *testing.T) {
	r := rand.New(rand.NewSource(95))
	for range 250 {
		g := randomGroup(r, r.Intn(3)+1, r.Intn(3), 6)
		for index := 1; index <= 4; index++ {
			if g.Generators == 3 && index == 4 {
				continue // too long a way for a plain one
			}
			want := plainSubgroups(g, index)
			l, err := g.Subgroups(index)
			if fmt.Sprint(l) != fmt.Sprint(want) || err != nil {
				t.Error(g, index, l, want, err)
			}
		}
	}
	for _, n := range []int{0, 3} {
		if l, err := (Group{Generators: n}).Subgroups(4); fmt.Sprint(l) != fmt.Sprint(plainSubgroups(Group{Generators: n}, 4)) || err != nil {
			t.Error(n, len(l), err)
		}
	}
}

// loops: words that lead from 0 back to 0, which make the subgroup of a table: to a row, by a letter on, and back to 0.
func loops(rows [][]int) [][]int {
	ways := make([][]int, len(rows))
	var out [][]int
	for from, row := range rows { // each row was led to from one ahead of it
		for column, to := range row {
			way := append(slices.Clone(ways[from]), (column/2+1)*(1-2*(column%2)))
			if to != 0 && ways[to] == nil {
				ways[to] = way
			} else if word := plainReduce(append(way, opposite(ways[to])...)); len(word) > 0 {
				out = append(out, word)
			}
		}
	}
	return out
}

// TestSubgroupsHaveTheirCosets: the cosets of what leads from 0 to 0 are the rows again.
func TestSubgroupsHaveTheirCosets(t *testing.T) {
	groups := []Group{{}, {Generators: 1}, {Generators: 2}, {2, [][]int{{1, 2, -1, -2}}}, {2, [][]int{{1, 2, -1, 2}}}, known()["of a triangle"].g, known()["of four points"].g, known()["of quaternions"].g}
	for _, g := range groups {
		for index := 1; index <= 4; index++ {
			l, err := g.Subgroups(index)
			if err != nil {
				t.Error(g, index, err)
			}
			for _, rows := range l {
				askTable(t, g, rows)
				again, err := g.Cosets(loops(rows))
				if fmt.Sprint(again) != fmt.Sprint(rows) || err != nil {
					t.Error(g, rows, again, err)
				}
			}
		}
	}
}
