package cubes

import (
	"fmt"
	"math"
	"math/rand"
	"slices"
	"strings"
	"testing"

	"handlebody/api"
	"handlebody/cells"
	"handlebody/smith"
)

// wide: so many rows, all alike.
func wide(rows int, row string) Image { return slices.Repeat(Image{row}, rows) }

// chess: a board whose first square is full.
func chess(rows, columns int) Image {
	var out Image
	for y := range rows {
		out = append(out, strings.Repeat("#.", columns)[y%2:y%2+columns])
	}
	return out
}

// wrongImages and what Valid tells of them.
func wrongImages() map[string]struct {
	m    Image
	want error
} {
	type row = struct {
		m    Image
		want error
	}
	long := strings.Repeat("#", api.MaxImage+1)
	return map[string]row{
		"a row too many":                   {wide(api.MaxImage+1, "#"), api.ErrBound},
		"an empty row too many":            {wide(api.MaxImage+1, ""), api.ErrBound},
		"very many rows":                   {wide(100000, "#."), api.ErrBound},
		"a column too many":                {Image{long}, api.ErrBound},
		"a last row too long":              {Image{"#", "#", long}, api.ErrBound},
		"a long row behind unlike ones":    {Image{"#", "##", long}, api.ErrBound},
		"a long row behind a wrong byte":   {Image{"x", long}, api.ErrBound},
		"a long row of wrong bytes":        {Image{strings.Repeat("x", 25)}, api.ErrBound},
		"runes of more bytes":              {Image{strings.Repeat("é", 13)}, api.ErrBound},
		"a row too many, and unlike":       {append(wide(api.MaxImage, "#"), ""), api.ErrBound},
		"a longer row":                     {Image{"#", "##"}, api.ErrShape},
		"a shorter row":                    {Image{"##", "#"}, api.ErrShape},
		"an empty row":                     {Image{"#", ""}, api.ErrShape},
		"an empty row first":               {Image{"", "#"}, api.ErrShape},
		"a last row unlike":                {append(wide(api.MaxImage-1, "#."), "#"), api.ErrShape},
		"unlike rows behind a wrong byte":  {Image{"x.", "..", "."}, api.ErrShape},
		"as many runes, but not bytes":     {Image{"é", "#"}, api.ErrShape},
		"a letter":                         {Image{"x"}, api.ErrText},
		"a letter at the end":              {Image{"##", "..", ".x"}, api.ErrText},
		"a letter within":                  {Image{"#x#"}, api.ErrText},
		"a blank":                          {Image{"# "}, api.ErrText},
		"a line's end":                     {Image{"#\n"}, api.ErrText},
		"a byte of zeros":                  {Image{"#\x00"}, api.ErrText},
		"a byte of no rune":                {Image{"\xff#"}, api.ErrText},
		"a byte above the full one's":      {Image{"$"}, api.ErrText},
		"a byte above the empty one's":     {Image{"/"}, api.ErrText},
		"a rune of two bytes":              {Image{"é", "##"}, api.ErrText},
		"a rune that ends as a full one's": {Image{"ģ", ".."}, api.ErrText},
	}
}

func TestValid(t *testing.T) {
	most := strings.Repeat("#.", api.MaxImage/2)
	for _, m := range []Image{nil, {}, {""}, {"", ""}, wide(api.MaxImage, ""), {"#"}, {"."}, {"#.#", "..."}, {most}, wide(api.MaxImage, most), wide(api.MaxImage, ".")} {
		if err := Valid(m); err != nil {
			t.Error(m, err)
		}
	}
	for name, x := range wrongImages() {
		if err := Valid(x.m); err != x.want {
			t.Error(name, err)
		}
	}
}

// calls of the package: each one's answer and its error.
func calls() map[string]func(m Image) (string, error) {
	tell := func(l ...any) string { return fmt.Sprintf("%v", l) }
	out := map[string]func(m Image) (string, error){
		"Counts": func(m Image) (string, error) {
			corners, edges, squares, err := Counts(m)
			return tell(corners, edges, squares), err
		},
		"Euler":   func(m Image) (string, error) { n, err := Euler(m); return tell(n), err },
		"Pieces":  func(m Image) (string, error) { n, err := Pieces(m); return tell(n), err },
		"Holes":   func(m Image) (string, error) { n, err := Holes(m); return tell(n), err },
		"Complex": func(m Image) (string, error) { c, err := Complex(m); return tell(c), err },
	}
	for _, dim := range []int{math.MinInt, -1, 0, 1, 2, 3, 4, math.MaxInt} {
		out[fmt.Sprint("Boundary ", dim)] = func(m Image) (string, error) { b, err := Boundary(m, dim); return tell(b), err }
	}
	return out
}

func TestWrongImagesEverywhere(t *testing.T) {
	zero := map[string]string{"Counts": "[0 0 0]", "Euler": "[0]", "Pieces": "[0]", "Holes": "[0]", "Complex": "[{[]}]"}
	for name, x := range wrongImages() {
		for call, ask := range calls() {
			want, ok := zero[call]
			if !ok {
				want = "[{0 0 []}]"
			}
			if got, err := ask(x.m); got != want || err != x.want {
				t.Error(name, call, got, err)
			}
		}
	}
}

func TestNumbers(t *testing.T) {
	for _, x := range []struct {
		m    Image
		want string // corners, edges, squares; Euler; pieces, holes
	}{
		{nil, "0 0 0; 0; 0 0"},
		{Image{"", "", ""}, "0 0 0; 0; 0 0"},
		{Image{"."}, "0 0 0; 0; 0 0"},
		{wide(24, strings.Repeat(".", 24)), "0 0 0; 0; 0 0"},
		{Image{"#"}, "4 4 1; 1; 1 0"},
		{Image{"##"}, "6 7 2; 1; 1 0"},
		{Image{"#", "#"}, "6 7 2; 1; 1 0"},
		{Image{"#."}, "4 4 1; 1; 1 0"},
		{Image{".", "#"}, "4 4 1; 1; 1 0"},
		{Image{"#.", ".#"}, "7 8 2; 1; 1 0"},
		{Image{".#", "#."}, "7 8 2; 1; 1 0"},
		{Image{"#.#"}, "8 8 2; 2; 2 0"},
		{Image{"###", "#.#", "###"}, "16 24 8; 0; 1 1"},
		{Image{".#.", "#.#", ".#."}, "12 16 4; 0; 1 1"}, // a hole that corners close
		{Image{"###", "#.#", "##."}, "15 22 7; 0; 1 1"},
		{Image{"###", "#.#", "#.#"}, "16 22 7; 1; 1 0"}, // open at the lower rim
		{Image{"#.#", "#.#", "###"}, "16 22 7; 1; 1 0"},
		{Image{"###", "#..", "###"}, "16 22 7; 1; 1 0"},
		{Image{"###", "..#", "###"}, "16 22 7; 1; 1 0"},
		{Image{"#.#", ".#.", "#.#"}, "16 20 5; 1; 1 0"},
		{Image{"####", "#..#", "#..#", "####"}, "24 36 12; 0; 1 1"},
		{Image{"####", "#.##", "##.#", "####"}, "25 40 14; -1; 1 2"}, // two, though they meet at a corner
		{Image{"#######", "#.....#", "#.###.#", "#.#.#.#", "#.###.#", "#.....#", "#######"}, "64 96 32; 0; 2 2"},
		{wide(24, strings.Repeat("#", 24)), "625 1200 576; 1; 1 0"},
		{chess(24, 24), "623 1152 288; -241; 1 242"},
		{wide(24, strings.Repeat("#.", 12)), "600 876 288; 12; 12 0"},
	} {
		corners, edges, squares, err := Counts(x.m)
		n, err1 := Euler(x.m)
		pieces, err2 := Pieces(x.m)
		holes, err3 := Holes(x.m)
		got := fmt.Sprintf("%d %d %d; %d; %d %d", corners, edges, squares, n, pieces, holes)
		if got != x.want || err != nil || err1 != nil || err2 != nil || err3 != nil {
			t.Error(x.m, got, err, err1, err2, err3)
		}
	}
}

// One piece that goes to and fro through all of the image, empty ways beside it.
func TestLongWays(t *testing.T) {
	var m Image
	for y := range 24 {
		switch {
		case y%2 == 0:
			m = append(m, strings.Repeat("#", 24))
		case y%4 == 1:
			m = append(m, strings.Repeat(".", 23)+"#")
		default:
			m = append(m, "#"+strings.Repeat(".", 23))
		}
	}
	if n, err := Pieces(m); n != 1 || err != nil {
		t.Error(n, err)
	}
	if n, err := Holes(m); n != 0 || err != nil {
		t.Error(n, err)
	}
}

func TestBoundary(t *testing.T) {
	for _, x := range []struct {
		m    Image
		want string
	}{
		{nil, "{0 0 []} {0 0 []} {0 0 []} {0 0 []}"},
		{Image{".."}, "{0 0 []} {0 0 []} {0 0 []} {0 0 []}"},
		{Image{"#"}, "{0 4 []} {4 4 [-1 -1 0 0 1 0 -1 0 0 1 0 -1 0 0 1 1]} {4 1 [1 -1 1 -1]} {1 0 []}"},
		{Image{"...", ".#."}, "{0 4 []} {4 4 [-1 -1 0 0 1 0 -1 0 0 1 0 -1 0 0 1 1]} {4 1 [1 -1 1 -1]} {1 0 []}"},
		{Image{"##"}, "{0 6 []} {6 7 [" +
			"-1 -1 0 0 0 0 0 " +
			"1 0 -1 -1 0 0 0 " +
			"0 0 1 0 -1 0 0 " +
			"0 1 0 0 0 -1 0 " +
			"0 0 0 1 0 1 -1 " +
			"0 0 0 0 1 0 1]} {7 2 [" +
			"1 0 -1 0 0 1 1 -1 0 1 -1 0 0 -1]} {2 0 []}"},
		{Image{"#", "#"}, "{0 6 []} {6 7 [" +
			"-1 -1 0 0 0 0 0 " +
			"1 0 -1 0 0 0 0 " +
			"0 1 0 -1 -1 0 0 " +
			"0 0 1 1 0 -1 0 " +
			"0 0 0 0 1 0 -1 " +
			"0 0 0 0 0 1 1]} {7 2 [" +
			"1 0 -1 0 1 0 -1 1 0 -1 0 1 0 -1]} {2 0 []}"},
		{Image{".#", "#."}, "{0 7 []} {7 8 [" +
			"-1 -1 0 0 0 0 0 0 " +
			"1 0 -1 0 0 0 0 0 " +
			"0 0 0 -1 -1 0 0 0 " +
			"0 1 0 1 0 -1 -1 0 " +
			"0 0 1 0 0 1 0 0 " +
			"0 0 0 0 1 0 0 -1 " +
			"0 0 0 0 0 0 1 1]} {8 2 [" +
			"1 0 -1 0 1 0 0 1 0 -1 -1 0 0 1 0 -1]} {2 0 []}"},
	} {
		var got []string
		for dim := range 4 {
			b, err := Boundary(x.m, dim)
			if err != nil {
				t.Error(x.m, dim, err)
			}
			got = append(got, fmt.Sprint(b))
		}
		if strings.Join(got, " ") != x.want {
			t.Error(x.m, got)
		}
		for _, dim := range []int{math.MinInt, -2, -1, 4, 5, math.MaxInt} {
			if b, err := Boundary(x.m, dim); fmt.Sprint(b) != "{0 0 []}" || err != api.ErrBound {
				t.Error(x.m, dim, b, err)
			}
		}
	}
}

// doubled: all points of an image's closed squares, with twice the numbers: corners are even, even; squares odd, odd.
func doubled(m Image) [][2]int {
	in := map[[2]int]bool{}
	for y, row := range m {
		for x, r := range row {
			for i := range 9 {
				in[[2]int{2*y + i/3, 2*x + i%3}] = in[[2]int{2*y + i/3, 2*x + i%3}] || r == '#'
			}
		}
	}
	var out [][2]int
	for at, yes := range in {
		if yes {
			out = append(out, at)
		}
	}
	slices.SortFunc(out, func(a, b [2]int) int { // by half of y, half of x; then corner, right, down, square
		return slices.Compare([]int{a[0] / 2, a[1] / 2, a[0] % 2, a[1] % 2}, []int{b[0] / 2, b[1] / 2, b[0] % 2, b[1] % 2})
	})
	return out
}

func ofDim(points [][2]int, dim int) [][2]int {
	var out [][2]int
	for _, at := range points {
		if at[0]%2+at[1]%2 == dim {
			out = append(out, at)
		}
	}
	return out
}

// byPoints: a boundary, told by the steps from one doubled point to another.
func byPoints(points [][2]int, dim int) smith.Matrix {
	rows, cols := ofDim(points, dim-1), ofDim(points, dim)
	m := smith.Matrix{Rows: len(rows), Cols: len(cols), L: []int{}}
	for _, r := range rows {
		for _, c := range cols {
			n := 0
			if down, right := r[0]-c[0], r[1]-c[1]; down*down+right*right == 1 {
				n = down + right
				if dim == 2 {
					n = right - down
				}
			}
			m.L = append(m.L, n)
		}
	}
	return m
}

// spread: how many names are left when each square of a kind has taken the least name near by, over and over.
func spread(m Image, kind byte, corners bool) int {
	name := map[[2]int]int{}
	for y := range m {
		for x := range m[y] {
			if m[y][x] == kind {
				name[[2]int{y, x}] = 1 + y*100 + x
			}
		}
	}
	for again := true; again; {
		again = false
		for at, n := range name {
			for i := range 9 {
				down, right := i/3-1, i%3-1
				if down*right != 0 && !corners {
					continue
				}
				if k, ok := name[[2]int{at[0] + down, at[1] + right}]; ok && k < n {
					n, again = k, true
				}
			}
			name[at] = n
		}
	}
	left := map[int]bool{}
	for _, n := range name {
		left[n] = true
	}
	return len(left)
}

// framed: an empty frame around an image, so that all that is at its rim is one piece.
func framed(m Image) Image {
	columns := 0
	if len(m) > 0 {
		columns = len(m[0])
	}
	out := Image{strings.Repeat(".", columns+2)}
	for _, row := range m {
		out = append(out, "."+row+".")
	}
	return append(out, out[0])
}

func ask(t *testing.T, m Image) {
	t.Helper()
	points := doubled(m)
	want := []int{len(ofDim(points, 0)), len(ofDim(points, 1)), len(ofDim(points, 2)), spread(m, '#', true), spread(framed(m), '.', false) - 1}
	corners, edges, squares, err := Counts(m)
	n, err1 := Euler(m)
	pieces, err2 := Pieces(m)
	holes, err3 := Holes(m)
	if err != nil || err1 != nil || err2 != nil || err3 != nil {
		t.Fatal(m, err, err1, err2, err3)
	}
	if got := []int{corners, edges, squares, pieces, holes}; !slices.Equal(got, want) {
		t.Fatal(m, got, want)
	}
	if n != corners-edges+squares || n != pieces-holes {
		t.Fatal(m, n, pieces, holes)
	}
}

func askBoundaries(t *testing.T, m Image) (out [4]smith.Matrix) {
	t.Helper()
	points := doubled(m)
	for dim := range 4 {
		got, err := Boundary(m, dim)
		want := byPoints(points, dim)
		if err != nil || got.Rows != want.Rows || got.Cols != want.Cols || !slices.Equal(got.L, want.L) {
			t.Fatal(m, dim, got, err)
		}
		out[dim] = got
	}
	return out
}

// askRanks: what the boundaries' ranks tell of pieces and holes; the boundary of a boundary is nothing.
func askRanks(t *testing.T, m Image, b [4]smith.Matrix) {
	t.Helper()
	ends, err := smith.Rank(b[1], 0)
	sides, err1 := smith.Rank(b[2], 0)
	if err != nil || err1 != nil {
		t.Fatal(m, err, err1)
	}
	pieces, _ := Pieces(m)
	holes, _ := Holes(m)
	if b[1].Rows-ends != pieces || b[1].Cols-ends-sides != holes || sides != b[2].Cols {
		t.Fatal(m, ends, sides)
	}
	nothing, err := smith.Product(b[1], b[2])
	if err != nil || slices.ContainsFunc(nothing.L, func(n int) bool { return n != 0 }) {
		t.Fatal(m, nothing, err)
	}
}

// askComplex: its triangles one by one, where Make takes them.
func askComplex(t *testing.T, m Image) {
	t.Helper()
	var sets [][]int
	for y, row := range m {
		for x, r := range row {
			if r == '#' {
				at := func(down, right int) int { return (y+down)*(len(row)+1) + x + right }
				sets = append(sets, []int{at(1, 1), at(0, 1), at(0, 0)}, []int{at(0, 0), at(1, 1), at(1, 0)})
			}
		}
	}
	want, wantErr := cells.Make(sets)
	got, err := Complex(m)
	if err != wantErr || fmt.Sprint(got) != fmt.Sprint(want) {
		t.Fatal(m, got, err, want, wantErr)
	}
	if err != nil {
		return
	}
	corners, edges, squares, _ := Counts(m)
	v, err := cells.Vector(got)
	if squares == 0 {
		v = []int{0, 0, 0}
	}
	if err != nil || !slices.Equal(v, []int{corners, edges + squares, 2 * squares}) {
		t.Fatal(m, v, err)
	}
	n, _ := Euler(m)
	if e, err := cells.Euler(got); e != n || err != nil {
		t.Fatal(m, e, err)
	}
}

// image of bits.
func image(rows, columns, bits int) Image {
	var out Image
	for y := range rows {
		row := make([]byte, columns)
		for x := range row {
			row[x] = "#."[bits>>(y*columns+x)&1]
		}
		out = append(out, string(row))
	}
	return out
}

func TestAllSmallImages(t *testing.T) {
	for _, s := range [][2]int{{0, 0}, {1, 0}, {2, 0}, {1, 1}, {1, 5}, {5, 1}, {2, 2}, {2, 3}, {3, 2}, {2, 4}, {4, 2}, {3, 3}, {3, 4}} {
		for bits := range 1 << (s[0] * s[1]) {
			m := image(s[0], s[1], bits)
			ask(t, m)
			askRanks(t, m, askBoundaries(t, m))
			askComplex(t, m)
		}
	}
}

func TestImagesByChance(t *testing.T) {
	r := rand.New(rand.NewSource(30))
	for range 300 {
		rows, columns, share := 1+r.Intn(24), 1+r.Intn(24), 1+r.Intn(9)
		var m Image
		for range rows {
			row := make([]byte, columns)
			for x := range row {
				row[x] = '.'
				if r.Intn(10) < share {
					row[x] = '#'
				}
			}
			m = append(m, string(row))
		}
		ask(t, m)
		askComplex(t, m)
		if rows*columns <= 120 {
			askBoundaries(t, m)
		}
	}
}

func TestGreatestImages(t *testing.T) {
	for _, m := range []Image{wide(24, strings.Repeat("#", 24)), chess(24, 24), chess(24, 23), chess(1, 24), chess(24, 1)} {
		ask(t, m)
		askBoundaries(t, m)
		askComplex(t, m)
	}
}

func TestComplex(t *testing.T) {
	empty := wide(8, strings.Repeat(".", 9))
	last := strings.Repeat(".", 8) + "#"
	for _, x := range []struct {
		m    Image
		want string
		err  error
	}{
		{nil, "", nil},
		{Image{"", ""}, "", nil},
		{Image{"...", "..."}, "", nil},
		{wide(24, strings.Repeat(".", 24)), "", nil},
		{Image{"#"}, "0 1 3; 0 2 3", nil},
		{Image{"##"}, "0 1 4; 0 3 4; 1 2 5; 1 4 5", nil},
		{Image{"#", "#"}, "0 1 3; 0 2 3; 2 3 5; 2 4 5", nil},
		{Image{".#", "#."}, "1 2 5; 1 4 5; 3 4 7; 3 6 7", nil},
		{Image{".", ".", "#"}, "4 5 7; 4 6 7", nil},
		{append(wide(23, ".."), "##"), "69 70 73; 69 72 73; 70 71 74; 70 73 74", nil},
		{slices.Concat(empty, Image{last}), "88 89 99; 88 98 99", nil}, // the greatest vertex
		{slices.Concat(empty, Image{last}, empty), "88 89 99; 88 98 99", nil},
		{slices.Concat(empty, Image{empty[0], "#........"}), "", api.ErrFace},
		{append(wide(8, strings.Repeat(".", 10)), "#........."), "", api.ErrFace}, // its last corner is 100
		{wide(9, strings.Repeat("#", 10)), "", api.ErrFace},
		{wide(24, strings.Repeat("#", 24)), "", api.ErrFace}, // ahead of its bound
	} {
		c, err := Complex(x.m)
		if text, _ := cells.Text(c); text != x.want || err != x.err {
			t.Error(x.m, text, err)
		}
	}
}

func TestComplexOfAllVertices(t *testing.T) {
	c, err := Complex(wide(9, strings.Repeat("#", 9)))
	if v, _ := cells.Vector(c); !slices.Equal(v, []int{100, 180 + 81, 162}) || err != nil {
		t.Error(v, err)
	}
}

func TestNothingIsShared(t *testing.T) {
	m := Image{"###", "#.#", "###"}
	for call, ask := range calls() {
		first, err := ask(m)
		again, err1 := ask(m)
		if first != again || err != err1 || !slices.Equal(m, Image{"###", "#.#", "###"}) {
			t.Error(call, first, again, m)
		}
	}
	for dim := range 4 {
		b, _ := Boundary(m, dim)
		want := fmt.Sprint(b)
		for i := range b.L {
			b.L[i] = 9
		}
		if b, _ = Boundary(m, dim); fmt.Sprint(b) != want {
			t.Error(dim, b)
		}
	}
	c, _ := Complex(m)
	want := fmt.Sprint(c)
	for i, facet := range c.Facets {
		for k := range facet {
			facet[k] = i
		}
		_ = append(facet, -1)
	}
	for i, facet := range c.Facets {
		if !slices.Equal(facet, []int{i, i, i}) {
			t.Error(i, facet)
		}
	}
	if c, _ = Complex(m); fmt.Sprint(c) != want {
		t.Error(c)
	}
}

func TestWhatLiesBehindAListIsNotTouched(t *testing.T) {
	long := Image{"##", "#.", "x", "....."}
	for call, ask := range calls() {
		got, err := ask(long[:2])
		want, wantErr := ask(Image{"##", "#."})
		if got != want || err != wantErr || !slices.Equal(long, Image{"##", "#.", "x", "....."}) {
			t.Error(call, got, err, long)
		}
	}
}
