package smith

import (
	"fmt"
	"math/big"
	"math/rand"
	"slices"
	"testing"

	"handlebody/api"
	"handlebody/whole"
)

func TestGreatSides(t *testing.T) {
	for _, m := range []Matrix{{}, mat(0, 300), mat(300, 0), zeros(300, 300), zeros(61, 1)} {
		if err := ValidGreat(m); err != nil {
			t.Error(m.Rows, m.Cols, err)
		}
		n, err := RankGreat(m, 2)
		l, err2 := FactorsGreat(m)
		if n != 0 || err != nil || len(l) > 0 || err2 != nil {
			t.Error(m.Rows, m.Cols, n, err, l, err2)
		}
	}
	for _, c := range []struct {
		m    Matrix
		want error
	}{{mat(301, 0), api.ErrBound}, {mat(0, 301), api.ErrBound}, {mat(-1, 0), api.ErrBound}, {mat(0, -1), api.ErrBound}, {mat(1<<32, 1<<32), api.ErrBound}, {mat(300, 300), api.ErrShape}, {mat(1, 1, api.MaxEntry+1), api.ErrShape}} {
		n, err := RankGreat(c.m, 4)
		l, err2 := FactorsGreat(c.m)
		if err3 := ValidGreat(c.m); n != 0 || err != c.want || len(l) > 0 || err2 != c.want || err3 != c.want {
			t.Error(c.m.Rows, c.m.Cols, n, err, l, err2, err3)
		}
	}
	if n, err := RankGreat(mat(1, 1, 1), 4); n != 0 || err != api.ErrKind {
		t.Error(n, err)
	}
}

func TestField(t *testing.T) {
	for p, want := range map[int]error{0: nil, 2: nil, 3: nil, 9973: nil, 1: api.ErrKind, 4: api.ErrKind, -2: api.ErrKind, 9971: api.ErrKind, 10007: api.ErrKind, 1<<32 + 3: api.ErrKind} {
		if err := Field(p); err != want {
			t.Error(p, err)
		}
	}
}

func TestChained(t *testing.T) {
	for _, c := range []struct {
		l, want []int
		ok      bool
	}{
		{nil, nil, true}, {[]int{6}, []int{6}, true}, {[]int{6, 4}, []int{2, 12}, true}, {[]int{6, 10, 15}, []int{1, 30, 30}, true}, {[]int{4, 1, 2, 1}, []int{1, 1, 2, 4}, true},
		{[]int{api.MaxFactor, 2}, []int{2, api.MaxFactor}, true}, {[]int{api.MaxFactor, 3}, nil, false}, {[]int{3, api.MaxFactor}, nil, false}, {[]int{api.MaxFactor / 2, 3}, nil, false}, {[]int{api.MaxFactor / 4, 3}, []int{1, 3 << 60}, true},
	} {
		if l, ok := chained(slices.Clone(c.l)); !slices.Equal(l, c.want) || ok != c.ok {
			t.Error(c.l, l, ok)
		}
	}
}

// lessRanks: small matrices, many of them of less rank than they have rows and columns.
func lessRanks(r *rand.Rand) Matrix {
	m := small4(r)
	if r.Intn(6) == 0 {
		m = random(r, 3+r.Intn(3), 3+r.Intn(3), api.MaxEntry)
	}
	if m.Rows > 2 && r.Intn(2) == 0 {
		for k := range m.Cols {
			m.L[k] = (m.L[m.Cols+k] + m.L[2*m.Cols+k]) / 2
		}
	}
	return m
}

func toBig(x whole.Nat) *big.Int {
	out := new(big.Int)
	for i := len(x) - 1; i >= 0; i-- {
		out.Lsh(out, 64).Add(out, new(big.Int).SetUint64(x[i]))
	}
	return out
}

func divides(a, b *big.Int) bool { return new(big.Int).Mod(b, a).Sign() == 0 }

// The steps one by one, where Factors would do with the first of them.
func TestStepsAgainstDeterminantsOfParts(t *testing.T) {
	r := rand.New(rand.NewSource(5))
	bound := big.NewInt(api.MaxFactor)
	left, tooGreat, deficient := 0, 0, 0
	for range 8000 {
		m := lessRanks(r)
		want := plainFactors(m)
		good := len(want) == 0 || want[len(want)-1].Cmp(bound) <= 0
		got, ok := coreFactors(m.grid())
		if ok != good || ok && fmt.Sprint(got) != fmt.Sprint(want) {
			t.Fatal(m, got, want, ok)
		}
		c := shrink(m.grid())
		if len(c.rows) > 0 {
			left++
		}
		rest, ok := coreFactors(c.rows)
		if ok {
			rest, ok = chained(append(c.taken, rest...))
		}
		if ok != good || ok && fmt.Sprint(rest) != fmt.Sprint(want) {
			t.Fatal(m, c, rest, want, ok)
		}
		if !good {
			tooGreat++
		}
		if len(want) > 0 && len(want) < min(m.Rows, m.Cols) {
			deficient++
		}
		askWitness(t, m, want)
	}
	if left < 500 || tooGreat < 100 || deficient < 500 {
		t.Error("the trials are lopsided:", left, tooGreat, deficient)
	}
}

func askWitness(t *testing.T, m Matrix, want []*big.Int) {
	t.Helper()
	if len(want) == 0 {
		return
	}
	all := big.NewInt(1)
	for _, x := range want {
		all.Mul(all, x)
	}
	at := wholeBasis(m.grid())
	det, _ := determinant(cut(m.grid(), at))
	if last := toBig(lastDivisor(m.grid(), at, det)); !divides(last, want[len(want)-1]) {
		t.Fatal(m, want, last)
	}
	if product := toBig(productMultiple(m.grid(), at, det)); !divides(all, product) || len(want) == m.Rows && m.Rows == m.Cols && all.Cmp(product) != 0 {
		t.Fatal(m, want, product)
	}
}

func TestShrink(t *testing.T) {
	grid := mat(3, 3, 1, 2, 0, 2, 4, 0, 0, 0, 6).grid()
	if c := shrink(grid); len(c.rows) != 0 || !slices.Equal(c.taken, []int{1, 6}) {
		t.Error(c)
	}
	grid = mat(3, 4, 0, 0, 0, 0, 0, api.MaxEntry, 0, 3, 0, 2, 0, api.MaxEntry).grid()
	if c := shrink(grid); fmt.Sprint(c.rows) != "[[1048576 3] [2 1048576]]" || len(c.taken) != 0 {
		t.Error("a number would be too great: it stays, without what is 0:", c)
	}
	grid = mat(1, 3, 6, 10, 15).grid()
	if c := shrink(grid); len(c.rows) != 0 || !slices.Equal(c.taken, []int{1}) {
		t.Error(c)
	}
	if c := shrink(mat(2, 0).grid()); len(c.rows) != 0 || len(c.taken) != 0 {
		t.Error(c)
	}
	if grid[0][0] != 6 || grid[0][2] != 15 {
		t.Error(grid)
	}
}

// A guess that lacks a prime which is in the last factor is found out.
func TestGuessesThatFail(t *testing.T) {
	grid := diagonal(29*31, 29*31, 29).grid()
	at := wholeBasis(grid)
	det, _ := determinant(cut(grid, at))
	if got, ok := coreFactors(grid); !ok || !slices.Equal(got, []int{29, 899, 899}) {
		t.Error(got, ok)
	}
	if last, _ := told(lastDivisor(grid, at, det)); 899%last != 0 {
		t.Error(last)
	}
	failed := 0
	for a := range 40 {
		for b := range 40 {
			grid := mat(2, 2, 29+a, 31, 37, 41+b).grid()
			want := plainFactors(mat(2, 2, 29+a, 31, 37, 41+b))
			at := wholeBasis(grid)
			det, _ := determinant(cut(grid, at))
			last := toBig(lastDivisor(grid, at, det))
			if !divides(want[len(want)-1], last.Mul(last, big.NewInt(smooth))) {
				failed++
			}
			if got, ok := coreFactors(grid); !ok || fmt.Sprint(got) != fmt.Sprint(want) {
				t.Error(a, b, got, ok, want)
			}
		}
	}
	if failed == 0 {
		t.Error("all guesses were good")
	}
}

// Of two equations the solution is told by CRAMER's rule; primes that divide the determinant tell nothing.
func TestSolution(t *testing.T) {
	r := rand.New(rand.NewSource(7))
	p := int(primeBelow(topPrime))
	mod := 1<<40 + 15
	for i := range 500 {
		m := random(r, 2, 2, api.MaxEntry)
		if i == 0 {
			m = mat(2, 2, p/2048, p%2048, -1, 2048)
		}
		right := random(r, 2, 1, 1000).L
		if m.L[0]*m.L[3] == m.L[1]*m.L[2] {
			continue
		}
		l := solution(m.grid(), right, whole.Of(uint64(mod)))
		for k, x := range []int{right[0]*m.L[3] - m.L[1]*right[1], m.L[0]*right[1] - m.L[2]*right[0]} {
			if got, ok := told(l[k]); !ok || uint64(got) != remainder(x, uint64(mod)) {
				t.Fatal(m, right, l, k, x)
			}
		}
	}
}

// lessByOne: the first row is a sum of two others, the first column is another one.
func lessByOne(m Matrix) Matrix {
	for k := range m.Cols {
		m.L[k] = m.L[m.Cols+k] + m.L[2*m.Cols+k]
	}
	for i := range m.Rows {
		m.L[i*m.Cols] = m.L[i*m.Cols+1]
	}
	return m
}

func TestGreatDenseOnes(t *testing.T) {
	r := rand.New(rand.NewSource(6))
	half := api.MaxEntry / 2
	for name, m := range map[string]Matrix{"square": random(r, 120, 120, api.MaxEntry), "less by one": lessByOne(random(r, 90, 90, half)), "small": random(r, 120, 120, 1)} {
		if l, err := FactorsGreat(m); len(l) > 0 || err != api.ErrBound {
			t.Error(name, len(l), err)
		}
	}
	for name, m := range map[string]Matrix{"wide": random(r, 60, 110, api.MaxEntry), "high": random(r, 110, 60, api.MaxEntry)} {
		if l, err := FactorsGreat(m); len(l) != 60 || slices.Max(l) != 1 || err != nil {
			t.Error(name, l, err)
		}
	}
	m := zeros(150, 130)
	for i := range 100 {
		m.L[i*130+i] = []int{1, 2, 12, 360}[i/25]
	}
	m = mixed(r, m, 8000)
	l, err := FactorsGreat(m)
	if n, err2 := RankGreat(m, 0); n != 100 || err2 != nil || err != nil || len(l) != 100 || l[24] != 1 || l[25] != 2 || l[49] != 2 || l[50] != 12 || l[99] != 360 {
		t.Error(n, l, err, err2)
	}
	for p, want := range map[int]int{2: 25, 3: 50, 5: 75, 7: 100} {
		if n, err := RankGreat(m, p); n != want || err != nil {
			t.Error(p, n, err)
		}
	}
}
