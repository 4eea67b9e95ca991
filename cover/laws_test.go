package cover

import (
	"fmt"
	"math"
	"math/rand"
	"slices"
	"testing"

	"handlebody/api"
	"handlebody/cells"
	"handlebody/group"
)

// bases: shapes that have coverings, of at most eight vertices.
func bases() []string {
	return []string{
		circle, eight, plane, moebius, hollow,
		"0 1 3; 1 3 4; 1 2 4; 2 4 5; 0 2 5; 0 3 5",            // a band that is not turned
		plane + "; 5 6; 6 7; 5 7",                             // with a circle at a point
		"0 1 2; 2 3; 3 4; 2 4; 0 5",                           // a circle at a triangle
		"0 1; 0 2; 0 3; 1 2; 1 3; 2 3",                        // the edges of a tetrahedron
		hollow + "; 3 4; 4 5; 3 5",                            // a sphere and a circle
		"0 1 2; 0 1 3; 0 1 4; 2 3; 3 4",                       // pages of a book
		"1 2 3; 0 1; 0 3; 3 4 5; 4 6; 5 6",                    // ways around triangles
		"0 1 2 3; 3 4; 4 5; 0 5",                              // a tetrahedron with a handle
		"0 1; 1 2; 0 2; 0 3; 3 4; 0 4; 0 5; 5 6; 0 6; 6 7",    // three circles
		"0 1; 1 2; 2 3; 3 4; 4 5; 5 6; 6 7; 0 7; 0 4; 1 5",    // a circle with chords
		"0 2; 0 3; 0 4; 1 2; 1 3; 1 4; 4 5; 5 6; 6 7; 7 4; 5", // what is told twice counts once
	}
}

// named anew, by any names, so that the tree is another one; with some more sets.
func named(r *rand.Rand, facets, more [][]int) (cells.Complex, error) {
	names := r.Perm(100)
	var sets [][]int
	for _, set := range slices.Concat(facets, more) {
		var next []int
		for _, v := range set {
			next = append(next, names[v])
		}
		sets = append(sets, next)
	}
	return cells.Make(sets)
}

// randomComplex that is connected, and whose group is one.
func randomComplex(r *rand.Rand) (cells.Complex, group.Group) {
	for {
		var base cells.Complex
		sets := 1 + r.Intn(10)
		if r.Intn(3) > 0 {
			base, _ = cells.Read(bases()[r.Intn(len(bases()))])
			sets = r.Intn(3)
		}
		n := 1 + r.Intn(7)
		var more [][]int
		for range sets {
			set := r.Perm(n)[:1+r.Intn(min(n, 3))]
			if r.Intn(12) == 0 {
				set = r.Perm(n)[:min(n, 4)]
			}
			more = append(more, set)
		}
		c, err := named(r, base.Facets, more)
		if err != nil {
			panic(err)
		}
		if g, _, err := group.Fundamental(c); err == nil {
			return c, g
		}
	}
}

// randomCovering: a complex and a table for it: of a subgroup of some words, or more of these side by side, their rows named anew.
func randomCovering(r *rand.Rand) (cells.Complex, [][]int) {
	c, g := randomComplex(r)
	var table [][]int
	for range []int{1, 1, 1, 2, 3}[r.Intn(5)] {
		next := randomCosets(r, g)
		if len(table)+len(next) <= 24 {
			table = both(table, next)
		}
	}
	names := r.Perm(len(table))
	out := make([][]int, len(table))
	for i, row := range table {
		for _, to := range row {
			out[names[i]] = append(out[names[i]], names[to])
		}
	}
	return c, out
}

func randomCosets(r *rand.Rand, g group.Group) [][]int {
	if len(g.Relators) == 0 && r.Intn(2) == 0 {
		return randomTable(r, 1+r.Intn(12), g.Generators)
	}
	for range 3 {
		var words [][]int
		for range r.Intn(3) {
			words = append(words, randomWord(r, g.Generators))
		}
		for i := range g.Generators { // most of them end
			if r.Intn(5) < 2 {
				words = append(words, slices.Repeat([]int{i + 1}, 2+r.Intn(3)))
			}
		}
		if l, err := g.Cosets(words); err == nil && len(l) <= 24 {
			return l
		}
		if g.Generators > 0 && g.Generators < 4 {
			if l, err := g.Subgroups(1 + r.Intn(4)); err == nil && len(l) > 0 {
				return l[r.Intn(len(l))]
			}
		}
	}
	return still(1, g.Generators)
}

func randomWord(r *rand.Rand, generators int) []int {
	var out []int
	for range r.Intn(6) {
		if generators > 0 {
			out = append(out, (1+r.Intn(generators))*(1-2*r.Intn(2)))
		}
	}
	return out
}

// plainStep: the sheet to which one comes from a vertex to a neighbour; false: it is none.
func plainStep(c cells.Complex, table [][]int, from, to, sheet int) (int, bool) {
	if from == to {
		ok, _ := cells.Has(c, []int{from})
		return sheet, ok
	}
	low, high := min(from, to), max(from, to)
	if ok, _ := cells.Has(c, []int{low, high}); !ok {
		return 0, false
	}
	_, generators, _ := group.Fundamental(c)
	k := slices.Index(generators, [2]int{low, high})
	if k < 0 {
		return sheet, true
	}
	if from < to {
		return table[sheet][2*k], true
	}
	for next := range table { // backward: from where the letter leads here
		if table[next][2*k] == sheet {
			return next, true
		}
	}
	panic("no way back")
}

// plainCheck: by triangles, around which one comes back just if the relators lead back.
func plainCheck(c cells.Complex, table [][]int) error {
	g, _, err := group.Fundamental(c)
	if err != nil {
		return err
	}
	if len(table) == 0 || len(table) > 24 {
		return api.ErrBound
	}
	for _, row := range table {
		if len(row) != 2*g.Generators {
			return api.ErrShape
		}
	}
	for k := range g.Generators {
		forward, backward := map[int]int{}, map[int]int{}
		for i, row := range table {
			forward[i], backward[row[2*k+1]] = row[2*k], i
		}
		if fmt.Sprint(forward) != fmt.Sprint(backward) { // so each row is led to once, and none but rows
			return api.ErrShape
		}
	}
	triangles, _ := cells.Faces(c, 2)
	for _, f := range triangles {
		for sheet := range table {
			b, _ := plainStep(c, table, f[0], f[1], sheet)
			b, _ = plainStep(c, table, f[1], f[2], b)
			if b, _ = plainStep(c, table, f[2], f[0], b); b != sheet {
				return api.ErrOrder
			}
		}
	}
	return nil
}

// plainFaces of the covering, as the words go: of each face of each dimension and each sheet.
func plainFaces(c cells.Complex, table [][]int) [][]int {
	vertices, _ := cells.Faces(c, 0)
	var out [][]int
	for dim := range api.MaxDim + 1 {
		list, _ := cells.Faces(c, dim)
		for _, f := range list {
			for sheet := range table {
				var face []int
				for _, v := range f {
					i := slices.IndexFunc(vertices, func(w []int) bool { return w[0] == v })
					s, _ := plainStep(c, table, f[0], v, sheet)
					face = append(face, i*len(table)+s)
				}
				out = append(out, face)
			}
		}
	}
	slices.SortFunc(out, slices.Compare[[]int])
	return out
}

func allFaces(c cells.Complex) [][]int {
	var out [][]int
	for dim := range api.MaxDim + 1 {
		list, _ := cells.Faces(c, dim)
		out = append(out, list...)
	}
	slices.SortFunc(out, slices.Compare[[]int])
	return out
}

// TestMakeAgainstPlain: the same faces, each once; Euler's number; how many are above each face; and one piece just if all rows can be come to.
func TestMakeAgainstPlain(t *testing.T) {
	r := rand.New(rand.NewSource(101))
	kinds := map[string]int{}
	for range 700 {
		c, table := randomCovering(r)
		if err := Check(c, table); err != nil {
			t.Fatal(c, table, err)
		}
		k, err := Make(c, table)
		want, n := plainFaces(c, table), len(table)
		if greatest := want[len(want)-1][0]; greatest > api.MaxVertex || len(want) > api.MaxFaces {
			if err == nil || len(k.Facets) > 0 || greatest > api.MaxVertex && err != api.ErrFace || greatest <= api.MaxVertex && err != api.ErrBound {
				t.Error(c, table, k, err)
			}
			kinds["refused"]++
			continue
		}
		if err != nil || cells.Valid(k) != nil || !slices.EqualFunc(allFaces(k), want, slices.Equal[[]int]) {
			t.Error(c, table, k, err)
			continue
		}
		a, _ := cells.Euler(c)
		b, _ := cells.Euler(k)
		if b != n*a {
			t.Error(c, table, a, b)
		}
		askAbove(t, c, k, n)
		_, _, err = group.Fundamental(k)
		if (err != api.ErrShape) != isTransitive(table) {
			t.Error(c, table, err)
		}
		kinds[fmt.Sprint(isTransitive(table), min(n, 5), a > 0)]++
	}
	if len(kinds) < 15 {
		t.Error("of too few kinds", kinds)
	}
}

// askAbove: each face of the covering is above a face, with each vertex above another one; and each face has as many above it as there are sheets.
func askAbove(t *testing.T, c, k cells.Complex, n int) {
	t.Helper()
	vertices, _ := cells.Faces(c, 0)
	count := map[string]int{}
	for _, f := range allFaces(k) {
		var below []int
		for _, v := range f {
			below = append(below, vertices[v/n][0])
		}
		count[fmt.Sprint(below)]++
	}
	all := allFaces(c)
	for _, f := range all {
		if count[fmt.Sprint(f)] != n {
			t.Error(c, k, f, count)
		}
	}
	if len(count) != len(all) {
		t.Error(c, k, count)
	}
}

func isTransitive(table [][]int) bool {
	reached := map[int]int{0: 0}
	for range table {
		for i, row := range table {
			for _, to := range row {
				if _, ok := reached[i]; ok {
					reached[to] = i
				}
			}
		}
	}
	return len(reached) == len(table)
}

// TestCheckAgainstPlain: of tables that fit, of permutations that may not, and of such with a number or a row changed.
func TestCheckAgainstPlain(t *testing.T) {
	r := rand.New(rand.NewSource(100))
	strange := []int{math.MinInt, -1, 0, 1, 2, 24, math.MaxInt}
	told := map[error]int{}
	for range 1500 {
		c, table := randomCovering(r)
		if r.Intn(2) == 0 {
			g, _, _ := group.Fundamental(c)
			table = randomTable(r, 1+r.Intn(5), max(0, g.Generators+r.Intn(20)/19))
		}
		i := r.Intn(len(table))
		switch r.Intn(4) {
		case 0:
			if len(table[i]) > 0 {
				table[i][r.Intn(len(table[i]))] = strange[r.Intn(len(strange))]
			}
		case 1:
			if len(table[i]) > 0 && r.Intn(3) == 0 {
				table[i] = table[i][1:]
			}
		}
		want := plainCheck(c, table)
		told[want]++
		if err := Check(c, table); err != want {
			t.Error(c, table, err, want)
		}
		k, err := Make(c, table)
		if want != nil && (err != want || len(k.Facets) > 0) {
			t.Error(c, table, k, err, want)
		}
		l, err := Lift(c, table, c.Facets[0], 0)
		if err != want || len(l) > 0 != (want == nil) {
			t.Error(c, table, l, err, want)
		}
		if n, err := Deck(table); want == nil && (err != nil && err != api.ErrBound || err == nil && n < 1) {
			t.Error(c, table, n, err)
		}
	}
	if told[nil] < 300 || told[api.ErrShape] < 300 || told[api.ErrOrder] < 100 {
		t.Error("of too few kinds", told)
	}
}

// TestLiftAgainstPlain: step by step, of paths that often go astray; and each step is an edge of the covering.
func TestLiftAgainstPlain(t *testing.T) {
	r := rand.New(rand.NewSource(102))
	for range 700 {
		c, table := randomCovering(r)
		vertices, _ := cells.Faces(c, 0)
		k, made := Make(c, table)
		sheet := r.Intn(len(table))
		at, want, fault := sheet, []int(nil), -1
		var path []int
		for i := range 1 + r.Intn(12) {
			v := vertices[r.Intn(len(vertices))][0]
			if r.Intn(25) == 0 {
				v = r.Intn(120) - 10
			}
			from := v
			if i > 0 {
				from = path[i-1]
			}
			next, ok := plainStep(c, table, from, v, at)
			for try := 0; !ok && fault < 0 && try < 6; try++ { // mostly not astray
				v = vertices[r.Intn(len(vertices))][0]
				if i == 0 {
					from = v
				}
				next, ok = plainStep(c, table, from, v, at)
			}
			if !ok && fault < 0 {
				fault = i
			}
			path, want, at = append(path, v), append(want, next), next
			if fault >= 0 {
				at = 0
			}
		}
		l, err := Lift(c, table, path, sheet)
		if fault >= 0 {
			if f, ok := err.(*api.Fault); !ok || f.At != fault || f.Err != api.ErrFace || len(l) > 0 {
				t.Error(c, table, path, l, err, fault)
			}
			continue
		}
		if err != nil || !slices.Equal(l, want) {
			t.Error(c, table, path, l, want, err)
		} else if made == nil {
			askSteps(t, k, vertices, path, l, len(table))
		}
	}
}

// askSteps: a path's lift is one of the covering.
func askSteps(t *testing.T, k cells.Complex, vertices [][]int, path, sheets []int, n int) {
	t.Helper()
	var above []int
	for i, v := range path {
		place := slices.IndexFunc(vertices, func(w []int) bool { return w[0] == v })
		above = append(above, place*n+sheets[i])
	}
	for i := 1; i < len(above); i++ {
		a, b := above[i-1], above[i]
		if ok, _ := cells.Has(k, []int{min(a, b), max(a, b)}); a != b && !ok {
			t.Error(k, path, sheets, "at", i)
		}
	}
}

// drawn: a closed path that can be drawn together: grown of one vertex, by standing still, by going there and back, and by going around triangles.
func drawn(r *rand.Rand, c cells.Complex) []int {
	vertices, _ := cells.Faces(c, 0)
	edges, _ := cells.Faces(c, 1)
	triangles, _ := cells.Faces(c, 2)
	path := []int{vertices[r.Intn(len(vertices))][0]}
	for range 20 + r.Intn(30) {
		i := r.Intn(len(path))
		detour := []int{path[i]}
		switch kind := r.Intn(7); {
		case kind < 3 && len(edges) > 0:
			e := edges[r.Intn(len(edges))]
			if k := slices.Index(e, path[i]); k >= 0 {
				detour = []int{e[1-k], path[i]}
			}
		case kind < 6 && len(triangles) > 0:
			f := triangles[r.Intn(len(triangles))]
			if k := slices.Index(f, path[i]); k >= 0 {
				way := 1 + r.Intn(2)
				detour = []int{f[(k+way)%3], f[(k+2*way)%3], path[i]}
			}
		}
		path = slices.Insert(path, i+1, detour...)
	}
	return path
}

func TestWhatCanBeDrawnTogetherIsClosed(t *testing.T) {
	r := rand.New(rand.NewSource(104))
	for range 600 {
		c, table := randomCovering(r)
		path := drawn(r, c)
		for sheet := range table {
			l, err := Lift(c, table, path, sheet)
			if err != nil || len(l) != len(path) || l[0] != sheet || l[len(l)-1] != sheet {
				t.Error(c, table, path, l, err)
			}
		}
	}
}

// roads in the tree: from the least vertex to each.
func roads(c cells.Complex) map[int][]int {
	_, generators, _ := group.Fundamental(c)
	vertices, _ := cells.Faces(c, 0)
	edges, _ := cells.Faces(c, 1)
	out := map[int][]int{vertices[0][0]: {vertices[0][0]}}
	for range vertices {
		for _, e := range edges {
			if slices.Contains(generators, [2]int(e)) {
				continue
			}
			for _, way := range [][2]int{{e[0], e[1]}, {e[1], e[0]}} {
				if road := out[way[0]]; road != nil && out[way[1]] == nil {
					out[way[1]] = append(slices.Clone(road), way[1])
				}
			}
		}
	}
	return out
}

// TestWordsAsPaths: the path that a word of the group is comes to where the table says.
func TestWordsAsPaths(t *testing.T) {
	r := rand.New(rand.NewSource(105))
	for range 400 {
		c, table := randomCovering(r)
		g, generators, _ := group.Fundamental(c)
		word, tree := randomWord(r, g.Generators), roads(c)
		vertices, _ := cells.Faces(c, 0)
		path := []int{vertices[0][0]}
		for _, letter := range word {
			e := generators[max(letter, -letter)-1]
			if letter < 0 {
				e[0], e[1] = e[1], e[0]
			}
			back := slices.Clone(tree[e[1]])
			slices.Reverse(back)
			path = slices.Concat(path, tree[e[0]], back)
		}
		for sheet := range table {
			want := sheet
			for _, letter := range word {
				column := 2*letter - 2
				if letter < 0 {
					column = -2*letter - 1
				}
				want = table[want][column]
			}
			if l, err := Lift(c, table, path, sheet); err != nil || l[len(l)-1] != want {
				t.Error(c, table, word, path, l, want, err)
			}
		}
	}
}

// TestNothingIsSharedOrChanged: what is handed over stays, with what lies behind it; what is answered is nobody else's.
func TestNothingIsSharedOrChanged(t *testing.T) {
	behind := func(l []int) []int { return append(slices.Clone(l), 77)[:len(l)] }
	c := read(t, plane)
	table := planeTwice()
	for _, lists := range [][][]int{c.Facets, table} {
		for i := range lists {
			lists[i] = behind(lists[i])
		}
	}
	path := behind([]int{0, 1, 2, 4, 3, 0})
	told := fmt.Sprint(c, table, path)
	ask := func() string {
		k, err := Make(c, table)
		l, other := Lift(c, table, path, 1)
		n, third := Deck(table)
		out := fmt.Sprint(Check(c, table), k, err, l, other, n, third)
		for i := range k.Facets {
			_ = append(k.Facets[i], 77)
		}
		if now := fmt.Sprint(Check(c, table), k, err, l, other, n, third); now != out {
			t.Error("one memory", now, out)
		}
		for i := range k.Facets {
			clear(k.Facets[i])
		}
		clear(k.Facets)
		clear(l)
		return out
	}
	first := ask()
	if again := ask(); again != first || fmt.Sprint(c, table, path) != told {
		t.Error(again, first, c, table, path)
	}
	for _, l := range append(slices.Concat(c.Facets, table), path) {
		if l[:len(l)+1][len(l)] != 77 {
			t.Error(l, "was written behind")
		}
	}
}

// TestOneRowForAll: rows that are one memory are read alone.
func TestOneRowForAll(t *testing.T) {
	row := []int{}
	if k, err := Make(read(t, "3 4"), [][]int{row, row, row}); fmt.Sprint(k) != "{[[0 3] [1 4] [2 5]]}" || err != nil {
		t.Error(k, err)
	}
	row = []int{0, 0}
	if err := Check(read(t, circle), [][]int{row, row}); err != api.ErrShape {
		t.Error(err)
	}
}
