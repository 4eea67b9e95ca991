package surface

import (
	"cmp"
	"errors"
	"fmt"
	"math"
	"math/rand"
	"slices"
	"testing"

	"handlebody/api"
	"handlebody/homology"
	"handlebody/smith"
)

const kinds = 7

func kindOf(i int) string {
	return []string{"turn", "flip", "name", "arrow", "cut", "glue", "fold"}[i]
}

// counted: so many letters, each name twice, from 1 on.
func counted(n int) []int {
	var out []int
	for i := range n {
		out = append(out, i/2+1)
	}
	return out
}

type wrongWords struct {
	w   Words
	err error
}

func wrong() []wrongWords {
	long := counted(121)
	return []wrongWords{
		{Words{{}}, api.ErrShape},
		{Words{nil}, api.ErrShape},
		{Words{{1, -1}, {}}, api.ErrShape},
		{Words{{}, {1}}, api.ErrShape},
		{Words{{0}}, api.ErrShape},
		{Words{{1, 0, 2}}, api.ErrShape},
		{Words{{61}}, api.ErrShape},
		{Words{{-61}}, api.ErrShape},
		{Words{{1}, {2, 100}}, api.ErrShape},
		{Words{{math.MaxInt}}, api.ErrShape},
		{Words{{math.MinInt}}, api.ErrShape},
		{Words{{math.MinInt + 1}}, api.ErrShape},
		{Words{{1, 1, 1}}, api.ErrShape},
		{Words{{1, -1, 1}}, api.ErrShape},
		{Words{{-60, 2, -60, 2, -60}}, api.ErrShape},
		{Words{{1}, {1}, {1}}, api.ErrShape},
		{Words{{1, 2}, {-2, -1}, {3, 2}}, api.ErrShape},
		{Words{make([]int, 120)}, api.ErrShape},
		{Words{make([]int, 121)}, api.ErrBound},
		{Words{long}, api.ErrBound},
		{Words{{}, long}, api.ErrBound},
		{Words{{0}, nil, long[1:]}, api.ErrBound},
		{Words{{1, 1, 1}, long[:60], long[60:]}, api.ErrBound},
		{Words{make([]int, 1000)}, api.ErrBound},
	}
}

func right() []Words {
	full := counted(120)
	return []Words{
		nil, {}, {{1}}, {{-1}}, {{60}}, {{-60, 60}}, {{-60}, {-60}}, {{1, 1}}, {{1, -1}}, {{2, 1, 2}, {-1}}, {full}, {full[:1], full[1:60], full[60:]},
	}
}

func TestValid(t *testing.T) {
	for _, c := range wrong() {
		if err := Valid(c.w); err != c.err {
			t.Error(c.w, err, c.err)
		}
	}
	for _, w := range right() {
		if err := Valid(w); err != nil {
			t.Error(w, err)
		}
	}
	single := Words{}
	for i := range 120 {
		single = append(single, []int{i%60 + 1})
	}
	if err := Valid(single); err != nil {
		t.Error(err)
	}
	if err := Valid(append(single, []int{})); err != api.ErrShape {
		t.Error(err)
	}
	if err := Valid(append(single, []int{1})); err != api.ErrBound {
		t.Error(err)
	}
}

func TestWrongWordsEverywhere(t *testing.T) {
	fine := Words{{1, 2, -1, -2}}
	for _, c := range wrong() {
		if k, err := Classify(c.w); err != c.err || k.Pieces != nil {
			t.Error(c.w, k, err)
		}
		if ok, err := Same(c.w, fine); err != c.err || ok {
			t.Error(c.w, ok, err)
		}
		if ok, err := Same(fine, c.w); err != c.err || ok {
			t.Error(c.w, ok, err)
		}
		for _, d := range wrong() {
			if ok, err := Same(c.w, d.w); err != c.err || ok {
				t.Error(c.w, d.w, ok, err)
			}
		}
		for i := range kinds {
			if w, err := Apply(c.w, Move{Kind: kindOf(i), Word: 9, At: 1, To: 2, Letter: 50}); err != c.err || w != nil {
				t.Error(c.w, kindOf(i), w, err)
			}
		}
		if w, err := Apply(c.w, Move{Kind: "melt"}); err != c.err || w != nil {
			t.Error(c.w, w, err)
		}
	}
}

func TestClassify(t *testing.T) {
	for _, c := range []struct {
		w    Words
		want string
	}{
		{nil, "[]"},
		{Words{}, "[]"},
		{Words{{1, -1}}, "[{true 0 0}]"},
		{Words{{-1, 1}}, "[{true 0 0}]"},
		{Words{{1}, {1}}, "[{true 0 0}]"},
		{Words{{60}, {-60}}, "[{true 0 0}]"},
		{Words{{1}}, "[{true 0 1}]"},
		{Words{{-9, 4, 7}}, "[{true 0 1}]"},
		{Words{{1, 2, -2, -1}}, "[{true 0 0}]"},
		{Words{{1, 1}}, "[{false 1 0}]"},
		{Words{{-1, -1}}, "[{false 1 0}]"},
		{Words{{1, 2, 1, 2}}, "[{false 1 0}]"},
		{Words{{1, 2, -1, -2}}, "[{true 1 0}]"},
		{Words{{1, 2, 3, -1, -2, -3}}, "[{true 1 0}]"},
		{Words{{1, 2, 3, 4, -1, -2, -3, -4}}, "[{true 2 0}]"},
		{Words{{1, 1, 2, 2}}, "[{false 2 0}]"},
		{Words{{1, 2, -1, 2}}, "[{false 2 0}]"},
		{Words{{1, 2, -1, 3}}, "[{true 0 2}]"},
		{Words{{1, 2, 1, 3}}, "[{false 1 1}]"},
		{Words{{1, 2, -1}}, "[{true 0 1}]"},
		{Words{{1, 2, -1, 3, 4, -3}}, "[{true 0 2}]"},
		{Words{{1, 2, -1, 3, 4, -3, 5}}, "[{true 0 3}]"},
		{Words{{1, 1, 2}}, "[{false 1 1}]"},
		{Words{{1, 2, -1, -2, 3}}, "[{true 1 1}]"},
		{Words{{1, 2, 3}, {1, 2, 3}}, "[{true 0 0}]"},
		{Words{{1, 2, 3}, {1, 3, 2}}, "[{true 1 0}]"},
		{Words{{1, 2, 3}, {-1, 2, 3}}, "[{false 1 0}]"},
		{Words{{1, 2, 3}, {1, -3, 2}}, "[{false 2 0}]"},
		{Words{{1, 2}, {1, 3}, {2, 3}}, "[{false 1 0}]"},
		{Words{{1, 2}, {-1, 3}, {-2, -3}}, "[{true 0 0}]"},
		{Words{{1, 1}, {2}, {3, 4, -3, -4}, {5, -5}, {6, 6, 7}}, "[{true 0 0} {true 0 1} {true 1 0} {false 1 0} {false 1 1}]"},
		{Words{{5, 5, 6, 6}, {1, 1, 2}, {3}, {4}}, "[{true 0 1} {true 0 1} {false 1 1} {false 2 0}]"},
		{Words{{1, 2, -1, 3}, {7}, {4, 5, -4, 6, 8, -6, 9}}, "[{true 0 1} {true 0 2} {true 0 3}]"},
	} {
		k, err := Classify(c.w)
		if got := fmt.Sprint(k.Pieces); got != c.want || err != nil {
			t.Error(c.w, got, err)
		}
		if ok, err := Same(c.w, c.w); !ok || err != nil {
			t.Error(c.w, ok, err)
		}
	}
}

func TestSame(t *testing.T) {
	for _, c := range []struct {
		a, b Words
		want bool
	}{
		{nil, Words{}, true},
		{nil, Words{{1, -1}}, false},
		{Words{{1, 1, 2, 2}}, Words{{1, 2, -1, 2}}, true},
		{Words{{1, 1, 2, 3, -2, -3}}, Words{{1, 1, 2, 2, 3, 3}}, true},
		{Words{{1, 2, -1, -2}}, Words{{1, 2, -1, 2}}, false},
		{Words{{1, 2, -1, -2}}, Words{{1, 1, 2, 2}}, false},
		{Words{{1}, {2, 2}}, Words{{1, 1}, {2, 3}}, true},
		{Words{{1}, {2}}, Words{{1}}, false},
		{Words{{1}}, Words{{1}, {2}}, false},
		{Words{{1, 2, -1, 3}}, Words{{1}}, false},
	} {
		if ok, err := Same(c.a, c.b); ok != c.want || err != nil {
			t.Error(c.a, c.b, ok, err)
		}
	}
}

// flag: a side of a word, and an end of it: 0 ahead, 1 behind.
type flag struct{ word, at, end int }

// turned around the corner to the side beside it.
func turned(w Words, f flag) flag {
	n := len(w[f.word])
	if f.end == 1 {
		return flag{f.word, (f.at + 1) % n, 0}
	}
	return flag{f.word, (f.at + n - 1) % n, 1}
}

// crossed to the side that is glued to it; false of a rim.
func crossed(w Words, f flag) (flag, bool) {
	letter := w[f.word][f.at]
	for i, word := range w {
		for k, other := range word {
			if i == f.word && k == f.at {
				continue
			}
			if other == letter {
				return flag{i, k, f.end}, true
			}
			if other == -letter {
				return flag{i, k, 1 - f.end}, true
			}
		}
	}
	return f, false
}

// swept around a vertex from a flag until the rim, or until the flag is there again; met is told of all flags on the way.
func swept(w Words, f flag, met func(f flag)) (flag, bool) {
	for at := f; ; {
		met(at)
		at = turned(w, at)
		met(at)
		over, ok := crossed(w, at)
		if !ok {
			return at, true
		}
		if over == f {
			return f, false
		}
		at = over
	}
}

// plainPiece of the words of one piece: vertices are swept around, rims are walked along, and polygons are turned over in all ways.
func plainPiece(w Words) Piece {
	vertices, names := 0, map[int]int{}
	seen := map[flag]bool{}
	rim := map[flag]bool{}
	for i, word := range w {
		for k, letter := range word {
			names[max(letter, -letter)]++
			for end := range 2 {
				f := flag{i, k, end}
				if _, ok := crossed(w, f); !ok {
					rim[f] = true
				}
				if !seen[f] {
					vertices++
					back, ok := swept(w, f, func(f flag) { seen[f] = true })
					if ok {
						swept(w, back, func(f flag) { seen[f] = true })
					}
				}
			}
		}
	}
	p := Piece{Turning: turns(w), Rims: walkedRims(w, rim)}
	p.Genus = 2 - p.Rims - (vertices - len(names) + len(w))
	if p.Turning {
		p.Genus /= 2
	}
	return p
}

// walkedRims: along a rim's side to its other end, around the vertex there to the next side.
func walkedRims(w Words, rim map[flag]bool) int {
	rims := 0
	for len(rim) > 0 {
		rims++
		var start flag
		for f := range rim {
			start = f
		}
		for f := start; rim[f]; {
			over := flag{f.word, f.at, 1 - f.end}
			delete(rim, f)
			delete(rim, over)
			f, _ = swept(w, over, func(flag) {})
		}
	}
	return rims
}

// turns: whether polygons can be turned over so that the sides of each letter are gone through against each other.
func turns(w Words) bool {
	for over := range 1 << len(w) {
		arrows, ok := map[int]int{}, true
		for i, word := range w {
			for _, letter := range word {
				if over>>i&1 == 1 {
					letter = -letter
				}
				name, sign := max(letter, -letter), 1
				if letter < 0 {
					sign = -1
				}
				ok = ok && arrows[name] != sign
				arrows[name] = sign
			}
		}
		if ok {
			return true
		}
	}
	return false
}

// parts: the words of each piece.
func parts(w Words) []Words {
	var out []Words
	left := slices.Clone(w)
	for len(left) > 0 {
		part := Words{left[0]}
		left = left[1:]
		for grown := true; grown; {
			grown = false
			for i, word := range left {
				if shareName(part, word) {
					part = append(part, word)
					left = slices.Delete(slices.Clone(left), i, i+1)
					grown = true
					break
				}
			}
		}
		out = append(out, part)
	}
	return out
}

func shareName(w Words, word []int) bool {
	for _, other := range w {
		for _, letter := range other {
			if slices.Contains(word, letter) || slices.Contains(word, -letter) {
				return true
			}
		}
	}
	return false
}

// plainPieces: as a text.
func plainPieces(w Words) string {
	var out []string
	for _, part := range parts(w) {
		p := plainPiece(part)
		turning := "0"
		if !p.Turning {
			turning = "1"
		}
		out = append(out, fmt.Sprintf("%s %03d %03d", turning, p.Genus, p.Rims))
	}
	slices.Sort(out)
	return fmt.Sprint(out)
}

func piecesOf(t *testing.T, w Words) string {
	t.Helper()
	k, err := Classify(w)
	if err != nil {
		t.Fatal(w, err)
	}
	var out []string
	for _, p := range k.Pieces {
		turning := "0"
		if !p.Turning {
			turning = "1"
		}
		out = append(out, fmt.Sprintf("%s %03d %03d", turning, p.Genus, p.Rims))
	}
	return fmt.Sprint(out)
}

// random words: so many at most, of so many letters together at most.
func random(r *rand.Rand, words, letters int) Words {
	var bag []int
	for _, name := range r.Perm(60) {
		bag = append(bag, name+1)
		if r.Intn(4) > 0 {
			bag = append(bag, name+1)
		}
	}
	bag = bag[:min(1+r.Intn(letters), len(bag))]
	r.Shuffle(len(bag), func(i, k int) { bag[i], bag[k] = bag[k], bag[i] })
	for i := range bag {
		if r.Intn(2) == 0 {
			bag[i] = -bag[i]
		}
	}
	out := make(Words, min(1+r.Intn(words), len(bag)))
	for i, letter := range bag {
		k := i
		if i >= len(out) {
			k = r.Intn(len(out))
		}
		out[k] = append(out[k], letter)
	}
	return out
}

// allWords with so many letters: names as they come first, all signs, cut everywhere.
func allWords(n int, show func(w Words)) {
	var grow func(list []int, next int)
	grow = func(list []int, next int) {
		if len(list) == n {
			for cuts := range 1 << (n - 1) {
				w := Words{nil}
				for i, letter := range list {
					if i > 0 && cuts>>(i-1)&1 == 1 {
						w = append(w, nil)
					}
					w[len(w)-1] = append(w[len(w)-1], letter)
				}
				show(w)
			}
			return
		}
		for name := 1; name <= next; name++ {
			times := 0
			for _, letter := range list {
				if letter == name || letter == -name {
					times++
				}
			}
			if times == 2 {
				continue
			}
			grow(append(slices.Clone(list), name), max(next, name+1))
			grow(append(slices.Clone(list), -name), max(next, name+1))
		}
	}
	grow(nil, 1)
}

func TestClassifyAgainstWalks(t *testing.T) {
	ask := func(w Words) {
		if got, want := piecesOf(t, w), plainPieces(w); got != want {
			t.Error(w, got, want)
		}
	}
	for n := 1; n <= 5; n++ {
		allWords(n, ask)
	}
	r := rand.New(rand.NewSource(1))
	for range 3000 {
		ask(random(r, 5, 16))
	}
	for range 200 {
		ask(random(r, 8, 90))
	}
}

// chain of the words: vertices, edges, polygons.
func chain(w Words) homology.Chain {
	vertex, vertices := map[flag]int{}, 0
	names := map[int]int{}
	for i, word := range w {
		for k, letter := range word {
			if name := max(letter, -letter); names[name] == 0 {
				names[name] = len(names) + 1
			}
			for end := range 2 {
				f := flag{i, k, end}
				if vertex[f] == 0 {
					vertices++
					mark := func(f flag) { vertex[f] = vertices }
					if back, ok := swept(w, f, mark); ok {
						swept(w, back, mark)
					}
				}
			}
		}
	}
	points := smith.Matrix{Cols: vertices}
	lines := smith.Matrix{Rows: vertices, Cols: len(names), L: make([]int, vertices*len(names))}
	sides := smith.Matrix{Rows: len(names), Cols: len(w), L: make([]int, len(names)*len(w))}
	done := map[int]bool{}
	for i, word := range w {
		for k, letter := range word {
			name, sign := letter, 1
			if letter < 0 {
				name, sign = -letter, -1
			}
			row := names[name] - 1
			sides.L[row*len(w)+i] += sign
			if !done[name] {
				done[name] = true
				lines.L[(vertex[flag{i, k, 0}]-1)*len(names)+row] -= sign
				lines.L[(vertex[flag{i, k, 1}]-1)*len(names)+row] += sign
			}
		}
	}
	return homology.Chain{points, lines, sides}
}

// groups that the pieces have.
func groups(pieces []Piece) string {
	out := make([]api.Group, 3)
	for _, p := range pieces {
		out[0].Free++
		loops := p.Genus + p.Rims - 1
		if p.Turning {
			loops += p.Genus
		}
		switch {
		case p.Rims > 0:
			out[1].Free += loops
		case p.Turning:
			out[1].Free += 2 * p.Genus
			out[2].Free++
		default:
			out[1].Free += loops
			out[1].Torsion = append(out[1].Torsion, 2)
		}
	}
	return fmt.Sprint(out)
}

func askHomology(t *testing.T, w Words) {
	t.Helper()
	k, err := Classify(w)
	if err != nil {
		t.Fatal(w, err)
	}
	l := chain(w)
	got, err := homology.Of(l)
	if fmt.Sprint(got) != groups(k.Pieces) || err != nil {
		t.Error(w, got, k, err)
	}
	euler := 0
	for _, p := range k.Pieces {
		euler += 2 - p.Genus - p.Rims
		if p.Turning {
			euler -= p.Genus
		}
	}
	if len(got) == 3 && euler != got[0].Free-got[1].Free+got[2].Free {
		t.Error(w, euler, got)
	}
}

func TestHomology(t *testing.T) {
	for n := 1; n <= 4; n++ {
		allWords(n, func(w Words) { askHomology(t, w) })
	}
	r := rand.New(rand.NewSource(2))
	for range 600 {
		askHomology(t, random(r, 6, 20))
	}
	for range 60 {
		askHomology(t, random(r, 12, 110))
	}
}

// eachPiece whose normal form has letters enough.
func eachPiece(show func(p Piece)) {
	for genus := range 61 {
		for rims := range 31 {
			if 2*genus+2*rims <= 60 {
				show(Piece{true, genus, rims})
			}
			if genus > 0 && genus+2*rims <= 60 {
				show(Piece{false, genus, rims})
			}
		}
	}
}

func TestNormal(t *testing.T) {
	for _, c := range []struct {
		p    Piece
		want string
		err  error
	}{
		{Piece{true, 0, 0}, "[1 -1]", nil},
		{Piece{true, 0, 1}, "[1 2 -1]", nil},
		{Piece{true, 0, 2}, "[1 2 -1 3 4 -3]", nil},
		{Piece{true, 1, 0}, "[1 2 -1 -2]", nil},
		{Piece{true, 2, 0}, "[1 2 -1 -2 3 4 -3 -4]", nil},
		{Piece{true, 1, 2}, "[1 2 -1 -2 3 4 -3 5 6 -5]", nil},
		{Piece{false, 1, 0}, "[1 1]", nil},
		{Piece{false, 3, 0}, "[1 1 2 2 3 3]", nil},
		{Piece{false, 2, 1}, "[1 1 2 2 3 4 -3]", nil},
		{Piece{false, 0, 0}, "[]", api.ErrShape},
		{Piece{false, 0, 3}, "[]", api.ErrShape},
		{Piece{false, 0, 1000}, "[]", api.ErrShape},
		{Piece{false, -1, 0}, "[]", api.ErrShape},
		{Piece{false, -1, 1000}, "[]", api.ErrShape},
		{Piece{true, -1, 0}, "[]", api.ErrShape},
		{Piece{true, 0, -1}, "[]", api.ErrShape},
		{Piece{true, 1000, -1}, "[]", api.ErrShape},
		{Piece{false, 1, -1}, "[]", api.ErrShape},
		{Piece{true, math.MinInt, math.MaxInt}, "[]", api.ErrShape},
		{Piece{true, 31, 0}, "[]", api.ErrBound},
		{Piece{true, 0, 31}, "[]", api.ErrBound},
		{Piece{true, 15, 16}, "[]", api.ErrBound},
		{Piece{false, 61, 0}, "[]", api.ErrBound},
		{Piece{false, 59, 1}, "[]", api.ErrBound},
		{Piece{false, 1, 30}, "[]", api.ErrBound},
		{Piece{true, math.MaxInt, math.MaxInt}, "[]", api.ErrBound},
		{Piece{true, 1 << 63 / 2, 0}, "[]", api.ErrBound},
		{Piece{true, 0, 1 << 62}, "[]", api.ErrBound},
		{Piece{true, 1 << 62, 1 << 62}, "[]", api.ErrBound},
		{Piece{false, 1 << 62, 1 << 61}, "[]", api.ErrBound},
		{Piece{false, 1, math.MaxInt}, "[]", api.ErrBound},
	} {
		w, err := Normal(c.p)
		if got := fmt.Sprint(w); got != c.want || err != c.err {
			t.Error(c.p, got, err)
		}
	}
}

func TestNormalIsOfItsPiece(t *testing.T) {
	n := 0
	eachPiece(func(p Piece) {
		n++
		w, err := Normal(p)
		if err != nil {
			t.Error(p, err)
			return
		}
		k, err := Classify(Words{w})
		if err != nil || len(k.Pieces) != 1 || k.Pieces[0] != p {
			t.Error(p, w, k, err)
		}
		if n%20 == 0 {
			askHomology(t, Words{w})
		}
	})
	for genus := range 70 {
		for rims := range 70 {
			for _, turning := range []bool{true, false} {
				n--
				if _, err := Normal(Piece{turning, genus, rims}); err != nil {
					n++
				}
			}
		}
	}
	if n != 0 {
		t.Error("so many more pieces have a normal form than are told:", n)
	}
}

func TestApply(t *testing.T) {
	w := Words{{1, 2, -1, -2}, {3, -3, 4, 5}, {-5}, {6, -6}}
	for _, c := range []struct {
		m    Move
		want string
		err  error
	}{
		{Move{Kind: "turn"}, "[[1 2 -1 -2] [3 -3 4 5] [-5] [6 -6]]", nil},
		{Move{Kind: "turn", At: 3, To: 99, Letter: -8}, "[[-2 1 2 -1] [3 -3 4 5] [-5] [6 -6]]", nil},
		{Move{Kind: "turn", Word: 2}, "[[1 2 -1 -2] [3 -3 4 5] [-5] [6 -6]]", nil},
		{Move{Kind: "turn", Word: 3, At: 1}, "[[1 2 -1 -2] [3 -3 4 5] [-5] [-6 6]]", nil},
		{Move{Kind: "turn", At: 4}, "[]", api.ErrOrder},
		{Move{Kind: "turn", At: -1}, "[]", api.ErrOrder},
		{Move{Kind: "turn", Word: 4}, "[]", api.ErrOrder},
		{Move{Kind: "turn", Word: -1}, "[]", api.ErrOrder},
		{Move{Kind: "flip"}, "[[2 1 -2 -1] [3 -3 4 5] [-5] [6 -6]]", nil},
		{Move{Kind: "flip", Word: 2, At: 77}, "[[1 2 -1 -2] [3 -3 4 5] [5] [6 -6]]", nil},
		{Move{Kind: "flip", Word: 4}, "[]", api.ErrOrder},
		{Move{Kind: "flip", Word: math.MinInt}, "[]", api.ErrOrder},
		{Move{Kind: "name", Word: 1, At: 3, Letter: 60}, "[[1 2 -1 -2] [3 -3 4 60] [-60] [6 -6]]", nil},
		{Move{Kind: "name", Word: 2, Letter: 7}, "[[1 2 -1 -2] [3 -3 4 7] [-7] [6 -6]]", nil},
		{Move{Kind: "name", Word: 2, Letter: 5}, "[]", api.ErrOrder},
		{Move{Kind: "name", Letter: 6}, "[]", api.ErrOrder},
		{Move{Kind: "name", Letter: 0}, "[]", api.ErrOrder},
		{Move{Kind: "name", Letter: -9}, "[]", api.ErrOrder},
		{Move{Kind: "name", Letter: 61}, "[]", api.ErrOrder},
		{Move{Kind: "name", Letter: math.MinInt}, "[]", api.ErrOrder},
		{Move{Kind: "name", At: 4, Letter: 9}, "[]", api.ErrOrder},
		{Move{Kind: "name", Word: 9, Letter: 9}, "[]", api.ErrOrder},
		{Move{Kind: "arrow", Word: 2, Letter: 99}, "[[1 2 -1 -2] [3 -3 4 -5] [5] [6 -6]]", nil},
		{Move{Kind: "arrow", Word: 1, At: 2}, "[[1 2 -1 -2] [3 -3 -4 5] [-5] [6 -6]]", nil},
		{Move{Kind: "arrow", Word: 1, At: 4}, "[]", api.ErrOrder},
		{Move{Kind: "arrow", Word: -1}, "[]", api.ErrOrder},
		{Move{Kind: "cut", Word: 1, At: 1, Letter: 60}, "[[1 2 -1 -2] [3 60] [-60 -3 4 5] [-5] [6 -6]]", nil},
		{Move{Kind: "cut", Word: 3, At: 1, Letter: 7}, "[[1 2 -1 -2] [3 -3 4 5] [-5] [6 7] [-7 -6]]", nil},
		{Move{Kind: "cut", Word: 0, At: 3, Letter: 7}, "[[1 2 -1 7] [-7 -2] [3 -3 4 5] [-5] [6 -6]]", nil},
		{Move{Kind: "cut", At: 0, Letter: 7}, "[]", api.ErrOrder},
		{Move{Kind: "cut", At: 4, Letter: 7}, "[]", api.ErrOrder},
		{Move{Kind: "cut", At: -1, Letter: 7}, "[]", api.ErrOrder},
		{Move{Kind: "cut", Word: 2, At: 1, Letter: 7}, "[]", api.ErrOrder},
		{Move{Kind: "cut", Word: 4, At: 1, Letter: 7}, "[]", api.ErrOrder},
		{Move{Kind: "cut", At: 1, Letter: 5}, "[]", api.ErrOrder},
		{Move{Kind: "cut", At: 1, Letter: -7}, "[]", api.ErrOrder},
		{Move{Kind: "cut", At: 1}, "[]", api.ErrOrder},
		{Move{Kind: "cut", At: 1, Letter: 61}, "[]", api.ErrOrder},
		{Move{Kind: "glue", At: 1, To: 2, Word: -9}, "[[1 2 -1 -2] [3 -3 4] [6 -6]]", nil},
		{Move{Kind: "glue", At: 2, To: 1}, "[]", api.ErrOrder},
		{Move{Kind: "glue", At: 3, To: 3}, "[]", api.ErrOrder},
		{Move{Kind: "glue", At: 1, To: 4}, "[]", api.ErrOrder},
		{Move{Kind: "glue", At: -1, To: 2}, "[]", api.ErrOrder},
		{Move{Kind: "glue", At: 1, To: -1}, "[]", api.ErrOrder},
		{Move{Kind: "glue", At: 4, To: 0}, "[]", api.ErrOrder},
		{Move{Kind: "fold", Word: 1}, "[[1 2 -1 -2] [4 5] [-5] [6 -6]]", nil},
		{Move{Kind: "fold", Word: 1, At: 1}, "[]", api.ErrOrder},
		{Move{Kind: "fold", Word: 1, At: 3}, "[]", api.ErrOrder},
		{Move{Kind: "fold", Word: 1, At: 4}, "[]", api.ErrOrder},
		{Move{Kind: "fold", Word: 1, At: -1}, "[]", api.ErrOrder},
		{Move{Kind: "fold", Word: 1, At: math.MaxInt}, "[]", api.ErrOrder},
		{Move{Kind: "fold", Word: 2}, "[]", api.ErrOrder},
		{Move{Kind: "fold", Word: 3}, "[]", api.ErrOrder},
		{Move{Kind: "fold", Word: 3, At: 1}, "[]", api.ErrOrder},
		{Move{Kind: "fold", Word: 4}, "[]", api.ErrOrder},
		{Move{}, "[]", api.ErrKind},
		{Move{Kind: "Turn"}, "[]", api.ErrKind},
		{Move{Kind: "turn "}, "[]", api.ErrKind},
		{Move{Kind: "melt", Word: 99, At: -1}, "[]", api.ErrKind},
	} {
		out, err := Apply(w, c.m)
		if got := fmt.Sprint(out); got != c.want || err != c.err {
			t.Error(c.m, got, err)
		}
	}
}

func TestApplyElsewhere(t *testing.T) {
	for _, c := range []struct {
		w    Words
		m    Move
		want string
		err  error
	}{
		{Words{{-7, -1, -2}, {4}, {1, 2, 7}}, Move{Kind: "glue", At: 2, To: 0}, "[[1 2 -1 -2] [4]]", nil},
		{Words{{5}, {1, 2, 7}, {4}, {-7, -1, -2}}, Move{Kind: "glue", At: 1, To: 3}, "[[5] [1 2 -1 -2] [4]]", nil},
		{Words{{1}, {-1, 2}}, Move{Kind: "glue", At: 0, To: 1}, "[[2]]", nil},
		{Words{{2, 1}, {-1}}, Move{Kind: "glue", At: 0, To: 1}, "[[2]]", nil},
		{Words{{-1}, {2, 1}}, Move{Kind: "glue", At: 1, To: 0}, "[[2]]", nil},
		{Words{{1}, {-1}}, Move{Kind: "glue", At: 0, To: 1}, "[]", api.ErrOrder},
		{Words{{2, 1}, {1, 3}}, Move{Kind: "glue", At: 0, To: 1}, "[]", api.ErrOrder},
		{Words{{1, -1, 2}}, Move{Kind: "glue"}, "[]", api.ErrOrder},
		{Words{{1, 2, -1}}, Move{Kind: "fold", At: 2}, "[]", api.ErrOrder},
		{Words{{1, -1, 2}}, Move{Kind: "fold"}, "[[2]]", nil},
		{Words{{2, -1, 1}}, Move{Kind: "fold", At: 1}, "[[2]]", nil},
		{Words{{1, 1, 2}}, Move{Kind: "fold"}, "[]", api.ErrOrder},
		{Words{{1, 1}}, Move{Kind: "name", At: 1, Letter: 3}, "[[3 3]]", nil},
		{Words{{-1, -1}}, Move{Kind: "name", At: 1, Letter: 3}, "[[-3 -3]]", nil},
		{Words{{-1}, {2, 1}}, Move{Kind: "name", Letter: 3}, "[[-3] [2 3]]", nil},
		{Words{{1, 1}}, Move{Kind: "arrow", At: 1}, "[[-1 -1]]", nil},
		{nil, Move{Kind: "flip"}, "[]", api.ErrOrder},
		{nil, Move{Kind: "glue"}, "[]", api.ErrOrder},
		{nil, Move{Kind: "melt"}, "[]", api.ErrKind},
		{Words{}, Move{Kind: "cut", At: 1, Letter: 1}, "[]", api.ErrOrder},
	} {
		out, err := Apply(c.w, c.m)
		if got := fmt.Sprint(out); got != c.want || err != c.err {
			t.Error(c.w, c.m, got, err)
		}
	}
}

// TestTheBoundOfCuts: 118 letters become 120; of more, no cut can be done, as no name is free: nothing comes, and so no bound is told.
func TestTheBoundOfCuts(t *testing.T) {
	full := counted(120)
	if out, err := Apply(Words{full[:118]}, Move{Kind: "cut", At: 60, Letter: 60}); err != nil || len(out) != 2 || len(out[0]) != 61 || len(out[1]) != 59 {
		t.Error(out, err)
	}
	if out, err := Apply(Words{full[:118]}, Move{Kind: "cut", At: 60, Letter: 59}); err != api.ErrOrder || out != nil {
		t.Error(out, err)
	}
	for _, w := range []Words{{full}, {full[:119]}, {full[:50], full[50:]}} {
		for _, m := range []Move{
			{Word: 5, At: 1, Letter: 7}, {Word: len(w), At: 1, Letter: 60}, {Word: -1, At: 1, Letter: 7}, {Word: 7},
			{At: 500, Letter: 7}, {At: len(w[0]), Letter: 7}, {At: 0, Letter: 7}, {At: -1, Letter: 7},
			{At: 1, Letter: 7}, {At: 1, Letter: 60}, {At: 1, Letter: 61}, {At: 1}, {At: 1, Letter: -7},
		} {
			m.Kind = "cut"
			if out, err := Apply(w, m); err != api.ErrOrder || out != nil {
				t.Error(len(w), m, out, err)
			}
		}
		if out, err := Apply(w, Move{Kind: "flip"}); err != nil || len(out) != len(w) {
			t.Error(len(w), out, err)
		}
		if out, err := Apply(w, Move{Kind: "melt"}); err != api.ErrKind || out != nil {
			t.Error(len(w), out, err)
		}
		if out, err := Apply(w, Move{Kind: "turn", Word: 7}); err != api.ErrOrder || out != nil {
			t.Error(len(w), out, err)
		}
	}
	if out, err := Apply(Words{counted(121)}, Move{Kind: "cut", Word: 5, At: 1, Letter: 7}); err != api.ErrBound || out != nil {
		t.Error(out, err)
	}
}

// parted: the letters in another order, with other signs, in three words.
func parted(r *rand.Rand, letters []int) Words {
	bag := slices.Clone(letters)
	r.Shuffle(len(bag), func(i, k int) { bag[i], bag[k] = bag[k], bag[i] })
	for i := range bag {
		if r.Intn(2) == 0 {
			bag[i] = -bag[i]
		}
	}
	a := 1 + r.Intn(len(bag)-2)
	b := a + 1 + r.Intn(len(bag)-a-1)
	return Words{bag[:a], bag[a:b], bag[b:]}
}

// TestCutsOfLongWords: of as many letters as there may be, and a few less, each cut is the plain one or ErrOrder, and the words stay.
func TestCutsOfLongWords(t *testing.T) {
	r := rand.New(rand.NewSource(6))
	full := counted(120)
	names := []int{math.MinInt, -60, -1, 0, 1, 2, 30, 57, 58, 59, 60, 61, math.MaxInt}
	// full[1:119] has all names among 118 letters: two of them stand there once.
	for _, letters := range [][]int{full, full[:119], full[:118], full[:117], full[:116], full[1:119], full[1:]} {
		w := parted(r, letters)
		before := fmt.Sprint(w)
		for _, word := range []int{math.MinInt, -1, 0, 1, 2, 3, math.MaxInt} {
			for at := -2; at < 123; at++ {
				for _, name := range names {
					m := Move{Kind: "cut", Word: word, At: at, Letter: name}
					askCut(t, w, m)
				}
			}
			askCut(t, w, Move{Kind: "cut", Word: word, At: math.MinInt, Letter: 60})
			askCut(t, w, Move{Kind: "cut", Word: word, At: math.MaxInt, Letter: 60})
		}
		if now := fmt.Sprint(w); now != before {
			t.Error(now, before)
		}
	}
}

func askCut(t *testing.T, w Words, m Move) {
	t.Helper()
	out, err := Apply(w, m)
	want := plainMove(w, m)
	if want == nil {
		if err != api.ErrOrder || out != nil {
			t.Fatal(w, m, out, err)
		}
		return
	}
	if err != nil || Valid(out) != nil || !slices.EqualFunc(out, want, slices.Equal) {
		t.Fatal(w, m, out, want, err)
	}
}

// plainMove: the words that come, spelt one by one; nil: it cannot be done.
func plainMove(w Words, m Move) Words {
	used := func(name int) bool { return shareName(w, []int{name}) }
	fresh := m.Letter > 0 && m.Letter < 61 && !used(m.Letter)
	there := m.Word >= 0 && m.Word < len(w)
	var word []int
	if there {
		word = w[m.Word]
	}
	letter := m.At >= 0 && m.At < len(word)
	var out Words
	for i, other := range w {
		var l []int
		for k, x := range other {
			switch m.Kind {
			case "turn":
				if i == m.Word && letter {
					x = other[(k+m.At)%len(other)]
				}
			case "flip":
				if i == m.Word {
					x = -other[len(other)-1-k]
				}
			case "name":
				if letter && fresh && (x == word[m.At] || x == -word[m.At]) {
					x = x / max(x, -x) * m.Letter
				}
			case "arrow":
				if letter && (x == word[m.At] || x == -word[m.At]) {
					x = -x
				}
			case "cut":
				if i == m.Word && k == m.At {
					out = append(out, append(l, m.Letter))
					l = []int{-m.Letter}
				}
			case "fold":
				if i == m.Word && (k == m.At || k == m.At+1) {
					continue
				}
			}
			l = append(l, x)
		}
		out = append(out, l)
	}
	switch {
	case m.Kind == "flip" && there, (m.Kind == "turn" || m.Kind == "arrow") && letter, m.Kind == "name" && letter && fresh, m.Kind == "cut" && letter && m.At > 0 && fresh:
		return out
	case m.Kind == "fold" && letter && m.At+1 < len(word) && len(word) > 2 && word[m.At]+word[m.At+1] == 0:
		return out
	case m.Kind == "glue":
		return plainGlue(w, m.At, m.To)
	}
	return nil
}

func plainGlue(w Words, a, b int) Words {
	if a == b || min(a, b) < 0 || max(a, b) >= len(w) || len(w[a])+len(w[b]) < 3 || w[a][len(w[a])-1]+w[b][0] != 0 {
		return nil
	}
	var out Words
	for i, word := range w {
		switch i {
		case min(a, b):
			both := slices.Concat(w[a], w[b])
			out = append(out, slices.Delete(both, len(w[a])-1, len(w[a])+1))
		case max(a, b):
		default:
			out = append(out, word)
		}
	}
	return out
}

func TestMovesAgainstPlainOnes(t *testing.T) {
	r := rand.New(rand.NewSource(3))
	done := map[string]int{}
	for range 500 {
		w := random(r, 4, 10)
		for range 400 {
			m := Move{kindOf(r.Intn(kinds)), r.Intn(6) - 1, r.Intn(8) - 1, r.Intn(6) - 1, r.Intn(63) - 1}
			out, err := Apply(w, m)
			want := plainMove(w, m)
			if fmt.Sprint(out) != fmt.Sprint(want) || (err == nil) != (want != nil) || err != nil && err != api.ErrOrder {
				t.Fatal(w, m, out, want, err)
			}
			if err == nil {
				done[m.Kind]++
			}
		}
	}
	for i := range kinds {
		if done[kindOf(i)] < 50 {
			t.Error(done)
		}
	}
}

// TestMovesKeepTheSurface: from a surface on, move by move.
func TestMovesKeepTheSurface(t *testing.T) {
	r := rand.New(rand.NewSource(4))
	for range 150 {
		w := random(r, 5, 40)
		want := piecesOf(t, w)
		for range 300 {
			word := r.Intn(len(w))
			m := Move{kindOf(r.Intn(kinds)), word, r.Intn(len(w[word])), r.Intn(len(w)), 1 + r.Intn(60)}
			out, err := Apply(w, m)
			if err != nil {
				if err != api.ErrOrder {
					t.Fatal(w, m, err)
				}
				continue
			}
			if got := piecesOf(t, out); got != want {
				t.Fatal(w, m, out, got, want)
			}
			if ok, err := Same(w, out); !ok || err != nil {
				t.Fatal(w, m, out, err)
			}
			w = out
		}
	}
}

// TestMovesGoBack: each but fold has a move that takes it back.
func TestMovesGoBack(t *testing.T) {
	r := rand.New(rand.NewSource(5))
	for range 2000 {
		w := random(r, 4, 30)
		word := r.Intn(len(w))
		at := r.Intn(len(w[word]))
		letter := 1 + r.Intn(60)
		old := nameOf(w[word][at])
		for _, pair := range [][2]Move{
			{{Kind: "turn", Word: word, At: at}, {Kind: "turn", Word: word, At: (len(w[word]) - at) % len(w[word])}},
			{{Kind: "flip", Word: word}, {Kind: "flip", Word: word}},
			{{Kind: "name", Word: word, At: at, Letter: letter}, {Kind: "name", Word: word, At: at, Letter: old}},
			{{Kind: "arrow", Word: word, At: at}, {Kind: "arrow", Word: word, At: at}},
			{{Kind: "cut", Word: word, At: at, Letter: letter}, {Kind: "glue", At: word, To: word + 1}},
		} {
			there, err := Apply(w, pair[0])
			if errors.Is(err, api.ErrOrder) {
				continue
			}
			back, err := Apply(there, pair[1])
			if fmt.Sprint(back) != fmt.Sprint(w) || err != nil {
				t.Fatal(w, pair, there, back, err)
			}
		}
	}
}

// TestNothingIsSharedOrChanged: the words stay, with what lies behind them; and what is answered is nobody else's.
func TestNothingIsSharedOrChanged(t *testing.T) {
	memory := []int{1, 2, -1, -2, 77, 3, -3, 4, 5, 78, -5, 79, 80}
	w := make(Words, 3, 5)
	w[0], w[1], w[2] = memory[:4], memory[5:9], memory[10:11]
	w[:5][3] = []int{50}
	before := fmt.Sprint(memory, w[:5])
	for _, m := range []Move{
		{Kind: "turn"}, {Kind: "turn", At: 2}, {Kind: "flip", Word: 1}, {Kind: "name", Letter: 9}, {Kind: "arrow", Word: 2},
		{Kind: "cut", At: 2, Letter: 9}, {Kind: "cut", Word: 1, At: 3, Letter: 9}, {Kind: "glue", At: 1, To: 2}, {Kind: "fold", Word: 1},
	} {
		first, err := Apply(w, m)
		if err != nil {
			t.Fatal(m, err)
		}
		want := fmt.Sprint(first)
		for i := range first {
			all := first[i][:cap(first[i])]
			for k := range all {
				all[k] = 1000 + i
			}
		}
		for i := range first {
			for _, x := range first[i] {
				if x != 1000+i {
					t.Error(m, "two words share memory", first)
				}
			}
		}
		again, err := Apply(w, m)
		if fmt.Sprint(again) != want || err != nil {
			t.Error(m, again, want, err)
		}
		if now := fmt.Sprint(memory, w[:5]); now != before {
			t.Error(m, now, before)
		}
	}
	k, err := Classify(w)
	want := fmt.Sprint(k)
	k.Pieces[0].Genus = 99
	again, err2 := Classify(w)
	if fmt.Sprint(again) != want || err != nil || err2 != nil || fmt.Sprint(memory, w[:5]) != before {
		t.Error(again, want, err, err2)
	}
	l, err := Normal(Piece{true, 0, 0})
	l[0] = 99
	m, err2 := Normal(Piece{true, 0, 0})
	if fmt.Sprint(m) != "[1 -1]" || err != nil || err2 != nil {
		t.Error(m, err, err2)
	}
}

func TestPiecesByEulerInOrder(t *testing.T) {
	l := []Piece{ByEuler(true, 2, 0), ByEuler(true, 1, 1), ByEuler(true, 0, 0), ByEuler(true, -3, 1), ByEuler(false, 1, 0), ByEuler(false, 0, 1), ByEuler(false, 0, 0)}
	if got := fmt.Sprint(l); got != "[{true 0 0} {true 0 1} {true 1 0} {true 2 1} {false 1 0} {false 1 1} {false 2 0}]" {
		t.Error(got)
	}
	for i, a := range l {
		for k, b := range l {
			if got := Compare(a, b); got != cmp.Compare(i, k) {
				t.Error(a, b, got)
			}
		}
	}
	for _, n := range []int{math.MinInt, math.MaxInt} {
		ByEuler(true, n, n)
		Compare(Piece{true, n, -n}, Piece{true, -n, n})
	}
}
