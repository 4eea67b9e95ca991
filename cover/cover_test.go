package cover

import (
	"fmt"
	"math"
	"slices"
	"testing"

	"handlebody/api"
	"handlebody/cells"
	"handlebody/manifold"
	"handlebody/surface"
)

const (
	circle  = "0 1; 1 2; 0 2"
	eight   = "0 1; 1 2; 0 2; 0 3; 3 4; 0 4"
	hollow  = "0 1 2; 0 1 3; 0 2 3; 1 2 3"
	torus   = "0 1 3; 1 2 4; 2 3 5; 3 4 6; 4 5 0; 5 6 1; 6 0 2; 0 2 3; 1 3 4; 2 4 5; 3 5 6; 4 6 0; 5 0 1; 6 1 2"
	plane   = "0 1 2; 0 2 3; 0 3 4; 0 4 5; 0 1 5; 1 2 4; 2 3 5; 1 3 4; 2 4 5; 1 3 5"
	moebius = "0 1 2; 1 2 3; 2 3 4; 0 3 4; 0 1 4"
)

func read(t *testing.T, text string) cells.Complex {
	t.Helper()
	c, err := cells.Read(text)
	if err != nil {
		t.Fatal(text, err)
	}
	return c
}

// shifts: a table of so many rows, in which each letter leads so many rows on.
func shifts(n int, by ...int) [][]int {
	out := make([][]int, n)
	for i := range out {
		for _, k := range by {
			out[i] = append(out[i], (i+k)%n, (i+n-k)%n)
		}
	}
	return out
}

// round: one letter goes around all rows.
func round(n int) [][]int { return shifts(n, 1) }

// still: so many letters lead nowhere else.
func still(n, letters int) [][]int { return shifts(n, make([]int, letters)...) }

// The tables of two rows of the plane, and of the band that is turned once: those of their groups that are not still.
func planeTwice() [][]int   { return shifts(2, 0, 1, 1, 0, 0, 1, 1, 0, 1, 0) }
func moebiusTwice() [][]int { return shifts(2, 0, 1, 0, 1, 1, 0) }

func TestMake(t *testing.T) {
	for name, c := range map[string]struct {
		text  string
		table [][]int
		want  string
	}{
		"a point":               {"7", [][]int{nil}, "0"},
		"three points":          {"7", make([][]int, 3), "0; 1; 2"},
		"an edge, once":         {"4 9", [][]int{{}}, "0 1"},
		"an edge, twice":        {"4 9", make([][]int, 2), "0 2; 1 3"},
		"a path of edges":       {"1 2; 2 3; 3 9", make([][]int, 2), "0 2; 1 3; 2 4; 3 5; 4 6; 5 7"},
		"a circle, once":        {circle, [][]int{{0, 0}}, "0 1; 0 2; 1 2"},
		"a circle, twice":       {circle, round(2), "0 2; 0 4; 1 3; 1 5; 2 5; 3 4"},
		"two circles":           {circle, still(2, 1), "0 2; 0 4; 1 3; 1 5; 2 4; 3 5"},
		"a circle, three times": {circle, round(3), "0 3; 0 6; 1 4; 1 7; 2 5; 2 8; 3 7; 4 8; 5 6"},
		"the other way":         {circle, [][]int{{2, 1}, {0, 2}, {1, 0}}, "0 3; 0 6; 1 4; 1 7; 2 5; 2 8; 3 8; 4 6; 5 7"},
		"other names":           {"30 50; 50 99; 30 99", round(2), "0 2; 0 4; 1 3; 1 5; 2 5; 3 4"},
		"once and twice":        {circle, [][]int{{0, 0}, {2, 2}, {1, 1}}, "0 3; 0 6; 1 4; 1 7; 2 5; 2 8; 3 6; 4 8; 5 7"},
		"two triangles":         {"0 1 2", still(2, 1), "0 2 4; 1 3 5"},
		"a way around":          {"1 2 3; 0 1; 0 3", [][]int{{1, 1, 1, 1}, {0, 0, 0, 0}}, "0 2; 0 6; 1 3; 1 7; 2 4 7; 3 5 6"},
		"an eight":              {eight, shifts(2, 0, 1), "0 2; 0 4; 0 6; 0 8; 1 3; 1 5; 1 7; 1 9; 2 4; 3 5; 6 9; 7 8"},
	} {
		k, err := Make(read(t, c.text), c.table)
		if got, _ := cells.Text(k); got != c.want || err != nil {
			t.Error(name, got, err)
		}
		if err := Check(read(t, c.text), c.table); err != nil {
			t.Error(name, err)
		}
	}
}

// TestKnownSurfaces: the plane is covered twice by a sphere; the band that is turned once, by one that is not, and three times by one that is.
func TestKnownSurfaces(t *testing.T) {
	ball, sphere := surface.Piece{Turning: true, Rims: 1}, surface.Piece{Turning: true}
	cross, band := surface.Piece{Genus: 1}, surface.Piece{Genus: 1, Rims: 1}
	for name, c := range map[string]struct {
		text  string
		table [][]int
		want  []surface.Piece
	}{
		"a plane once":         {plane, still(1, 10), []surface.Piece{cross}},
		"a plane twice":        {plane, planeTwice(), []surface.Piece{sphere}},
		"two planes":           {plane, still(2, 10), []surface.Piece{cross, cross}},
		"a plane and a sphere": {plane, both(still(1, 10), planeTwice()), []surface.Piece{sphere, cross}},
		"a band twice":         {moebius, moebiusTwice(), []surface.Piece{{Turning: true, Rims: 2}}},
		"two bands":            {moebius, still(2, 6), []surface.Piece{band, band}},
		"a band three times":   {moebius, shifts(3, 0, 1, 0, 1, 1, 0), []surface.Piece{band}},
		"a band four times":    {moebius, shifts(4, 0, 1, 0, 1, 1, 0), []surface.Piece{{Turning: true, Rims: 2}}},
		"three spheres":        {hollow, still(3, 3), []surface.Piece{sphere, sphere, sphere}},
		"24 triangles":         {"7 8 9", still(24, 1), slices.Repeat([]surface.Piece{ball}, 24)},
	} {
		k, err := Make(read(t, c.text), c.table)
		if err != nil {
			t.Error(name, err)
			continue
		}
		s, err := manifold.Surface(k)
		slices.SortFunc(c.want, surface.Compare)
		if !slices.Equal(s.Pieces, c.want) || err != nil {
			t.Error(name, s, err)
		}
	}
}

// both: two tables side by side.
func both(a, b [][]int) [][]int {
	var out [][]int
	for _, row := range a {
		out = append(out, slices.Clone(row))
	}
	for _, row := range b {
		next := make([]int, len(row))
		for i, to := range row {
			next[i] = to + len(a)
		}
		out = append(out, next)
	}
	return out
}

// TestGreatCircles: of as many sheets as there may be.
func TestGreatCircles(t *testing.T) {
	for n := 1; n <= 24; n++ {
		k, err := Make(read(t, circle), round(n))
		if err != nil {
			t.Fatal(n, err)
		}
		if s, err := manifold.Shape(k); s != "sphere" || len(k.Facets) != 3*n || err != nil {
			t.Error(n, s, k, err)
		}
	}
}

// TestTheBoundsOfMake: what cells.Make refuses, and how many faces there are where it does not.
func TestTheBoundsOfMake(t *testing.T) {
	const path, lasso = "1 2; 2 3; 3 4; 4 5", "96 97; 97 98; 98 99; 96 99; 0 99; 0 1; 1 2; 2 3; 3 4; 4 5; 5 6"
	for name, c := range map[string]struct {
		text  string
		table [][]int
		want  error
		faces int
	}{
		"100 vertices":       {path, make([][]int, 20), nil, 180},
		"105 vertices":       {path, make([][]int, 21), api.ErrFace, 0},
		"99 vertices":        {lasso, still(9, 1), nil, 198},
		"110 vertices":       {lasso, still(10, 1), api.ErrFace, 0},
		"600 faces":          {"0 1 2 3 4; 4 5 6 7; 0 4 5; 0 4 6; 0 7", still(12, 12), nil, 600},
		"612 faces":          {"0 1 2 3 4; 4 5 6 7; 0 4 5; 0 4 6; 0 4 7", still(12, 12), api.ErrBound, 0},
		"567 faces":          {"0 1 2 3 4 5", still(9, 10), nil, 567},
		"630 faces":          {"0 1 2 3 4 5", still(10, 10), api.ErrBound, 0},
		"too many of both":   {"0 1 2 3 4 5", still(24, 10), api.ErrFace, 0},
		"16 planes":          {plane, still(16, 10), nil, 496},
		"17 planes":          {plane, still(17, 10), api.ErrFace, 0},
		"24 points":          {"99", make([][]int, 24), nil, 24},
		"eight, 20 of a row": {eight, shifts(20, 1, 3), nil, 220},
	} {
		k, err := Make(read(t, c.text), c.table)
		n := 0
		v, _ := cells.Vector(k)
		for _, count := range v {
			n += count
		}
		if err != c.want || n != c.faces {
			t.Error(name, n, err)
		}
		if err := Check(read(t, c.text), c.table); err != nil {
			t.Error(name, err)
		}
	}
}

// wrong tables, with what Check says of them.
type wrongCase struct {
	facets [][]int
	table  [][]int
	want   error
}

func wrongCases(t *testing.T) map[string]wrongCase {
	of := func(text string) [][]int { return read(t, text).Facets }
	return map[string]wrongCase{
		"no faces":                        {nil, round(2), api.ErrNone},
		"no faces, no rows":               {nil, nil, api.ErrNone},
		"an empty face":                   {[][]int{{}}, round(2), api.ErrFace},
		"a vertex that is none":           {[][]int{{0, 100}}, round(2), api.ErrFace},
		"too many dimensions":             {[][]int{{0, 1, 2, 3, 4, 5, 6, 7}}, round(2), api.ErrBound},
		"facets out of order":             {[][]int{{1, 2}, {0, 1}, {0, 2}}, round(2), api.ErrShape},
		"two points":                      {of("0; 1"), round(2), api.ErrShape},
		"two points, no rows":             {of("0; 1"), nil, api.ErrShape},
		"two circles":                     {of("0 1; 1 2; 0 2; 3 4; 4 5; 3 5"), round(2), api.ErrShape},
		"too many generators":             {of(torus), still(2, 15), api.ErrBound},
		"no rows":                         {of(circle), nil, api.ErrBound},
		"an empty table":                  {of(circle), [][]int{}, api.ErrBound},
		"24 rows":                         {of(circle), round(24), nil},
		"25 rows":                         {of(circle), round(25), api.ErrBound},
		"25 rows, and wrong ones":         {of(circle), make([][]int, 25), api.ErrBound},
		"1000 rows":                       {of("0"), make([][]int, 1000), api.ErrBound},
		"no letters":                      {of(circle), make([][]int, 2), api.ErrShape},
		"a letter too few":                {of(eight), round(2), api.ErrShape},
		"a letter too many":               {of(circle), shifts(2, 1, 1), api.ErrShape},
		"half a letter":                   {of(circle), [][]int{{0}}, api.ErrShape},
		"a letter and a half":             {of(circle), [][]int{{0, 0, 0}}, api.ErrShape},
		"a letter of a point":             {of("0"), still(1, 1), api.ErrShape},
		"a letter of an edge":             {of("0 1"), still(2, 1), api.ErrShape},
		"one row is short":                {of(circle), [][]int{{1, 1}, {0}}, api.ErrShape},
		"one row is long":                 {of(circle), [][]int{{1, 1}, {0, 0, 0, 0}}, api.ErrShape},
		"one row is empty":                {of(circle), [][]int{{1, 1}, nil}, api.ErrShape},
		"a number too great":              {of(circle), [][]int{{1, 1}}, api.ErrShape},
		"a number too great, later":       {of(circle), [][]int{{1, 1}, {0, 2}}, api.ErrShape},
		"a number below 0":                {of(circle), [][]int{{1, 1}, {-1, 0}}, api.ErrShape},
		"the least number":                {of(circle), [][]int{{math.MinInt, 0}}, api.ErrShape},
		"the greatest number":             {of(circle), [][]int{{0, math.MaxInt}}, api.ErrShape},
		"not back":                        {of(circle), [][]int{{1, 1}, {0, 1}}, api.ErrShape},
		"two to one":                      {of(circle), [][]int{{0, 0}, {0, 1}}, api.ErrShape},
		"backward as forward":             {of(circle), [][]int{{1, 1}, {2, 2}, {0, 0}}, api.ErrShape},
		"the second letter not back":      {of(eight), [][]int{{1, 1, 1, 1}, {0, 0, 1, 0}}, api.ErrShape},
		"a relator":                       {of("0 1 2"), round(2), api.ErrOrder},
		"a relator, backward":             {of("0 1 2"), round(3), api.ErrOrder},
		"a relator, and a wrong number":   {of("0 1 2"), [][]int{{1, 1}, {0, 7}}, api.ErrShape},
		"a relator, and 25 rows":          {of("0 1 2"), round(25), api.ErrBound},
		"a relator of two letters":        {of("1 2 3; 0 1; 0 3"), shifts(2, 1, 0), api.ErrOrder},
		"the same, as it should be":       {of("1 2 3; 0 1; 0 3"), shifts(2, 1, 1), nil},
		"a relator from one row alone":    {of("0 1 2"), [][]int{{0, 0}, {2, 2}, {1, 1}}, api.ErrOrder},
		"a relator from the last rows":    {of("0 1 2"), both(still(22, 1), round(2)), api.ErrOrder},
		"the last relator":                {of("0 1; 1 2; 0 2; 3 4 5; 0 3"), shifts(2, 1, 1), api.ErrOrder},
		"the last relator, as it should":  {of("0 1; 1 2; 0 2; 3 4 5; 0 3"), shifts(2, 1, 0), nil},
		"a plane that is turned":          {of(plane), shifts(2, 0, 1, 1, 0, 0, 1, 1, 0, 1, 1), api.ErrOrder},
		"a plane":                         {of(plane), planeTwice(), nil},
		"a sphere that is turned":         {of(hollow), shifts(2, 1, 1, 0), api.ErrOrder},
		"a band of which all is turned":   {of(moebius), shifts(2, 1, 1, 1, 1, 1, 1), api.ErrOrder},
		"rows that are not come to":       {of(circle), still(5, 1), nil},
		"one number in place of a letter": {of(circle), [][]int{{1, 2}, {2, 0}, {1, 0}}, api.ErrShape},
	}
}

func TestWrongTables(t *testing.T) {
	for name, w := range wrongCases(t) {
		c := cells.Complex{Facets: w.facets}
		if err := Check(c, w.table); err != w.want {
			t.Error(name, err, w.want)
		}
		if w.want == nil {
			continue
		}
		if k, err := Make(c, w.table); err != w.want || len(k.Facets) > 0 {
			t.Error(name, k, err, w.want)
		}
		for _, path := range [][]int{nil, {0}, {0, 1}, {200}} { // what is wrong of a path is told later
			if l, err := Lift(c, w.table, path, 0); err != w.want || len(l) > 0 {
				t.Error(name, path, l, err, w.want)
			}
		}
		if l, err := Lift(c, w.table, []int{0}, -1); err != w.want || len(l) > 0 {
			t.Error(name, l, err, w.want)
		}
	}
}

func TestLift(t *testing.T) {
	for name, c := range map[string]struct {
		text  string
		table [][]int
		path  []int
		sheet int
		want  string
	}{
		"a vertex":              {circle, round(2), []int{1}, 1, "[1]"},
		"a vertex that stays":   {circle, round(2), []int{1, 1, 1}, 1, "[1 1 1]"},
		"around":                {circle, round(2), []int{0, 1, 2, 0}, 0, "[0 0 1 1]"},
		"around, from 1":        {circle, round(2), []int{0, 1, 2, 0}, 1, "[1 1 0 0]"},
		"around three times":    {circle, round(3), []int{2, 0, 1, 2, 0, 1, 2, 0, 1, 2}, 1, "[1 1 1 2 2 2 0 0 0 1]"},
		"around backward":       {circle, round(3), []int{0, 2, 1, 0}, 0, "[0 0 2 2]"},
		"there and back":        {circle, round(3), []int{1, 2, 2, 1, 1}, 2, "[2 0 0 2 2]"},
		"backward and there":    {circle, round(3), []int{2, 1, 1, 2}, 0, "[0 2 2 0]"},
		"around and back":       {circle, round(2), []int{0, 1, 2, 0, 0, 2, 1}, 0, "[0 0 1 1 1 1 0]"},
		"other names":           {"30 50; 50 99; 30 99", round(3), []int{30, 50, 99, 30}, 1, "[1 1 2 2]"},
		"around a triangle":     {"0 1 2", still(3, 1), []int{0, 1, 2, 0}, 2, "[2 2 2 2]"},
		"of no letters":         {"0 1; 1 2", make([][]int, 24), []int{2, 1, 0, 1}, 23, "[23 23 23 23]"},
		"both of an eight":      {eight, [][]int{{1, 1, 0, 0}, {0, 0, 2, 2}, {2, 2, 1, 1}}, []int{0, 1, 2, 0, 3, 4, 0, 1, 2, 0}, 0, "[0 0 1 1 1 2 2 2 2 2]"},
		"an eight, else around": {eight, [][]int{{1, 1, 0, 0}, {0, 0, 2, 2}, {2, 2, 1, 1}}, []int{0, 3, 4, 0, 1, 2, 0}, 0, "[0 0 0 0 0 1 1]"},
	} {
		l, err := Lift(read(t, c.text), c.table, c.path, c.sheet)
		if got := fmt.Sprint(l); got != c.want || err != nil {
			t.Error(name, got, err)
		}
	}
}

func TestWrongPaths(t *testing.T) {
	const square = "0 1; 1 2; 2 3; 0 3"
	for name, c := range map[string]struct {
		path  []int
		sheet int
		want  error
		at    int
	}{
		"empty":                           {nil, 0, api.ErrShape, -1},
		"empty, and no sheet":             {[]int{}, 9, api.ErrShape, -1},
		"sheet 2":                         {[]int{0}, 2, api.ErrShape, -1},
		"sheet -1":                        {[]int{0}, -1, api.ErrShape, -1},
		"the least sheet":                 {[]int{0}, math.MinInt, api.ErrShape, -1},
		"the greatest sheet":              {[]int{0}, math.MaxInt, api.ErrShape, -1},
		"no sheet, and no vertex":         {[]int{7}, 2, api.ErrShape, -1},
		"no vertex":                       {[]int{4}, 0, api.ErrFace, 0},
		"no vertex, twice":                {[]int{4, 4}, 0, api.ErrFace, 0},
		"below 0":                         {[]int{-1}, 0, api.ErrFace, 0},
		"the least":                       {[]int{math.MinInt, 0}, 0, api.ErrFace, 0},
		"the greatest":                    {[]int{0, math.MaxInt}, 0, api.ErrFace, 1},
		"no vertex, later":                {[]int{0, 1, 1, 9, 1}, 1, api.ErrFace, 3},
		"no edge":                         {[]int{0, 2}, 1, api.ErrFace, 1},
		"no edge backward":                {[]int{3, 1}, 1, api.ErrFace, 1},
		"no edge, later":                  {[]int{0, 1, 2, 0, 99}, 0, api.ErrFace, 3},
		"the last has no edge":            {[]int{0, 1, 2, 3, 1}, 0, api.ErrFace, 4},
		"no edge ahead of no vertex":      {[]int{0, 2, 50}, 0, api.ErrFace, 1},
		"no vertex ahead of no edge":      {[]int{50, 0, 2}, 0, api.ErrFace, 0},
		"from a wrong one there is none":  {[]int{0, 50, 50, 0}, 0, api.ErrFace, 1},
		"all is well":                     {[]int{0, 1, 2, 3, 0}, 0, nil, -1},
		"all is well on the second sheet": {[]int{3, 3, 0}, 1, nil, -1},
	} {
		l, err := Lift(read(t, square), round(2), c.path, c.sheet)
		if err == nil && c.want == nil && len(l) == len(c.path) {
			continue
		}
		f, isFault := err.(*api.Fault)
		switch {
		case len(l) > 0:
			t.Error(name, l, err)
		case c.at < 0 && err != c.want:
			t.Error(name, err)
		case c.at >= 0 && (!isFault || *f != api.Fault{At: c.at, Err: c.want}):
			t.Error(name, err, f)
		}
	}
}
