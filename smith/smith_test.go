package smith

import (
	"errors"
	"fmt"
	"math"
	"math/big"
	"math/rand"
	"slices"
	"testing"

	"handlebody/api"
)

func mat(rows, cols int, l ...int) Matrix { return Matrix{Rows: rows, Cols: cols, L: l} }

func zeros(rows, cols int) Matrix { return mat(rows, cols, make([]int, rows*cols)...) }

func diagonal(d ...int) Matrix {
	m := zeros(len(d), len(d))
	for i, x := range d {
		m.L[i*len(d)+i] = x
	}
	return m
}

func random(r *rand.Rand, rows, cols, size int) Matrix {
	m := zeros(rows, cols)
	for i := range m.L {
		m.L[i] = r.Intn(2*size+1) - size
	}
	return m
}

// wrong matrices, and what Valid tells of them.
func wrong() map[string]struct {
	m    Matrix
	want error
} {
	type row = struct {
		m    Matrix
		want error
	}
	return map[string]row{
		"rows below 0":               {mat(-1, 0), api.ErrBound},
		"columns below 0":            {mat(0, -1), api.ErrBound},
		"both below 0":               {mat(-1, -1, 7), api.ErrBound},
		"too many rows":              {zeros(api.MaxSide+1, 1), api.ErrBound},
		"too many columns":           {zeros(1, api.MaxSide+1), api.ErrBound},
		"too many rows of nothing":   {mat(api.MaxSide+1, 0), api.ErrBound},
		"the greatest sides":         {mat(math.MaxInt, math.MaxInt), api.ErrBound},
		"the least sides":            {mat(math.MinInt, math.MinInt), api.ErrBound},
		"sides whose product wraps":  {mat(1<<32, 1<<32), api.ErrBound},
		"a bound and a shape":        {mat(61, 1, 1), api.ErrBound},
		"a list that is nil":         {mat(2, 2), api.ErrShape},
		"a list too short":           {mat(2, 2, 1, 2, 3), api.ErrShape},
		"a list too long":            {mat(2, 2, 1, 2, 3, 4, 5), api.ErrShape},
		"a number of nothing":        {mat(0, 5, 1), api.ErrShape},
		"a number too great":         {mat(1, 2, 0, api.MaxEntry+1), api.ErrShape},
		"a number too little":        {mat(2, 1, 0, -api.MaxEntry-1), api.ErrShape},
		"the greatest number of all": {mat(1, 1, math.MaxInt), api.ErrShape},
		"the least number of all":    {mat(1, 1, math.MinInt), api.ErrShape},
	}
}

func TestValid(t *testing.T) {
	for name, c := range wrong() {
		if err := Valid(c.m); err != c.want {
			t.Error(name, err)
		}
	}
	for _, m := range []Matrix{{}, mat(0, 0), mat(0, 60), mat(60, 0), zeros(60, 60), mat(1, 2, api.MaxEntry, -api.MaxEntry), {Rows: 0, Cols: 3, L: []int{}}} {
		if err := Valid(m); err != nil {
			t.Error(m.Rows, m.Cols, err)
		}
	}
}

func TestWrongMatricesEverywhere(t *testing.T) {
	good := mat(1, 1, 1)
	for name, c := range wrong() {
		if n, err := Rank(c.m, 4); n != 0 || err != c.want {
			t.Error(name, "Rank", n, err)
		}
		if l, err := Factors(c.m); len(l) > 0 || err != c.want {
			t.Error(name, "Factors", l, err)
		}
		if n, err := Det(c.m); n != 0 || err != c.want {
			t.Error(name, "Det", n, err)
		}
		if ok, err := Solvable(c.m, []int{1, 2, 3, math.MaxInt}); ok || err != c.want {
			t.Error(name, "Solvable", ok, err)
		}
		for _, pair := range [][2]Matrix{{c.m, good}, {good, c.m}} {
			p, err := Product(pair[0], pair[1])
			if p.Rows != 0 || p.Cols != 0 || len(p.L) > 0 || err != c.want {
				t.Error(name, "Product", p, err)
			}
		}
	}
}

func TestRank(t *testing.T) {
	for _, c := range []struct {
		m       Matrix
		p, want int
	}{
		{mat(0, 0), 0, 0}, {mat(0, 7), 2, 0}, {mat(7, 0), 0, 0}, {zeros(5, 4), 0, 0}, {zeros(5, 4), 3, 0},
		{mat(2, 2, 2, 4, 6, 8), 0, 2}, {mat(2, 2, 2, 4, 6, 8), 2, 0}, {mat(2, 2, 2, 4, 6, 8), 3, 2},
		{mat(2, 2, 1, 2, 3, 4), 2, 1}, {mat(2, 3, 1, 2, 3, 2, 4, 6), 0, 1}, {mat(3, 2, 0, 1, 0, 2, 0, 5), 0, 1},
		{mat(2, 2, 0, 1, 1, 0), 2, 2}, {mat(2, 2, -1, 2, 1, -2), 0, 1}, {mat(2, 2, -1, 1, 1, 1), 2, 1},
		{mat(1, 1, -9973), 9973, 0}, {mat(1, 1, 9972), 9973, 1}, {diagonal(2, 3, 5, 7, 30), 5, 3},
		{mat(1, 1, api.MaxEntry), 2, 0}, {mat(1, 1, api.MaxEntry), 0, 1}, {mat(1, 1, -api.MaxEntry), 3, 1},
	} {
		if n, err := Rank(c.m, c.p); n != c.want || err != nil {
			t.Error(c.m, c.p, n, err)
		}
	}
}

func TestRankOfWrongFields(t *testing.T) {
	prime := func(p int) bool { return p > 1 && big.NewInt(int64(p)).ProbablyPrime(0) }
	m := mat(1, 1, 1)
	for p := -20; p < 10100; p++ {
		n, err := Rank(m, p)
		if good := p == 0 || p <= 9973 && prime(p); good && (n != 1 || err != nil) || !good && (n != 0 || err != api.ErrKind) {
			t.Error(p, n, err)
		}
	}
	for _, p := range []int{math.MinInt, math.MaxInt, math.MaxInt32, -2, 1<<32 + 2, -1 << 62} {
		if n, err := Rank(m, p); n != 0 || err != api.ErrKind {
			t.Error(p, n, err)
		}
	}
}

// The primes by which numbers are told divide this matrix's determinant: its rank is 2 all the same.
func TestRankWherePrimesFail(t *testing.T) {
	p := int(primeBelow(topPrime))
	m := mat(2, 2, p/2048, p%2048, -1, 2048)
	if n, err := Rank(m, 0); n != 2 || err != nil {
		t.Error(n, err)
	}
	if n, err := Det(m); n != p || err != nil {
		t.Error(n, err)
	}
	if l, err := Factors(m); !slices.Equal(l, []int{1, p}) || err != nil {
		t.Error(l, err)
	}
	if len(basis(m.grid(), uint64(p)).rows) != 1 {
		t.Error("the first prime should fail here")
	}
}

func TestFactors(t *testing.T) {
	for _, c := range []struct {
		m    Matrix
		want []int
	}{
		{mat(0, 0), nil}, {mat(0, 9), nil}, {mat(9, 0), nil}, {zeros(4, 3), nil}, {mat(1, 1, 1), []int{1}}, {mat(1, 1, -1), []int{1}},
		{mat(2, 2, 2, 4, 6, 8), []int{2, 4}}, {diagonal(2, 3), []int{1, 6}}, {diagonal(4, 6), []int{2, 12}}, {diagonal(6, 10, 15), []int{1, 30, 30}},
		{diagonal(0, 0, 5), []int{5}}, {diagonal(0, 4, 0, 6), []int{2, 12}}, {mat(1, 3, 6, 10, 15), []int{1}}, {mat(3, 1, 6, 10, -14), []int{2}},
		{mat(2, 2, 0, 3, 0, 5), []int{1}}, {mat(2, 2, 6, 6, 6, 6), []int{6}}, {mat(2, 2, -4, 0, 0, 4), []int{4, 4}},
		{diagonal(api.MaxEntry, api.MaxEntry, api.MaxEntry), []int{1 << 20, 1 << 20, 1 << 20}},
	} {
		if l, err := Factors(c.m); !slices.Equal(l, c.want) || err != nil {
			t.Error(c.m, l, err)
		}
	}
}

func TestFactorsAtTheBound(t *testing.T) {
	// All factors but the last one are 1 here, so that this one is the determinant: 2^62, or, with a -1 in the corner, one more.
	chain := func(l ...int) Matrix {
		m := diagonal(l...)
		for i := range len(l) - 1 {
			m.L[i*len(l)+i+1] = 1
		}
		return m
	}
	if l, err := Factors(chain(1<<20, 1<<20, 1<<20, 4)); !slices.Equal(l, []int{1, 1, 1, api.MaxFactor}) || err != nil {
		t.Error(l, err)
	}
	over := chain(1<<20, 1<<20, 1<<20, 4)
	over.L[12] = -1
	if l, err := Factors(over); len(l) > 0 || err != api.ErrBound {
		t.Error(l, err)
	}
	if n, err := Det(over); n != 0 || err != api.ErrBound {
		t.Error(n, err)
	}
	over.L[12] = 1
	if l, err := Factors(over); !slices.Equal(l, []int{1, 1, 1, api.MaxFactor - 1}) || err != nil {
		t.Error(l, err)
	}
	if l, err := Factors(chain(1<<20, 1<<20, 1<<20, 8)); len(l) > 0 || err != api.ErrBound {
		t.Error(l, err)
	}
	if l, err := Factors(chain(1<<20, 1<<20, 1<<20, 1<<20, 1<<20)); len(l) > 0 || err != api.ErrBound {
		t.Error(l, err)
	}
}

func TestDet(t *testing.T) {
	for _, c := range []struct {
		m    Matrix
		want int
		err  error
	}{
		{mat(0, 0), 1, nil}, {mat(1, 1, 0), 0, nil}, {mat(1, 1, -3), -3, nil}, {mat(2, 2, 1, 2, 3, 4), -2, nil}, {mat(2, 2, 0, 1, 1, 0), -1, nil},
		{mat(3, 3, 0, 1, 0, 0, 0, 1, 1, 0, 0), 1, nil}, {diagonal(2, -3, 5), -30, nil}, {zeros(60, 60), 0, nil}, {mat(2, 2, 3, 6, 2, 4), 0, nil},
		{diagonal(1<<20, 1<<20, 1<<20, 4), api.MaxFactor, nil}, {diagonal(1<<20, 1<<20, 1<<20, -4), -api.MaxFactor, nil},
		{diagonal(1<<20, 1<<20, 1<<20, 5), 0, api.ErrBound}, {diagonal(1<<20, 1<<20, 1<<20, 1<<20), 0, api.ErrBound}, {diagonal(1<<20, 1<<20, -1<<20, 1<<20), 0, api.ErrBound},
		{mat(1, 0), 0, api.ErrShape}, {mat(0, 1), 0, api.ErrShape}, {zeros(2, 3), 0, api.ErrShape},
	} {
		if n, err := Det(c.m); n != c.want || err != c.err {
			t.Error(c.m, n, err)
		}
	}
}

func TestSolvable(t *testing.T) {
	for _, c := range []struct {
		m    Matrix
		b    []int
		want bool
		err  error
	}{
		{mat(0, 0), nil, true, nil}, {mat(0, 3), []int{}, true, nil}, {mat(2, 0), []int{0, 0}, true, nil}, {mat(2, 0), []int{0, 1}, false, nil},
		{mat(1, 1, 2), []int{4}, true, nil}, {mat(1, 1, 2), []int{-4}, true, nil}, {mat(1, 1, 2), []int{3}, false, nil}, {mat(1, 1, 0), []int{0}, true, nil}, {mat(1, 1, 0), []int{1}, false, nil},
		{mat(1, 2, 6, 10), []int{2}, true, nil}, {mat(1, 2, 6, 10), []int{3}, false, nil}, {mat(1, 3, 6, 10, 15), []int{1}, true, nil},
		{mat(2, 1, 2, 3), []int{4, 6}, true, nil}, {mat(2, 1, 2, 3), []int{4, 7}, false, nil}, {mat(2, 1, 2, 4), []int{1, 2}, false, nil},
		{mat(2, 2, 1, 1, 1, -1), []int{1, 0}, false, nil}, {mat(2, 2, 1, 1, 1, -1), []int{1, 3}, true, nil},
		{mat(2, 2, 2, 4, 6, 8), []int{2, 2}, true, nil}, {mat(2, 2, 2, 4, 6, 8), []int{2, 4}, false, nil}, {mat(3, 2, 2, 0, 0, 3, 2, 3), []int{4, 9, 13}, true, nil}, {mat(3, 2, 2, 0, 0, 3, 2, 3), []int{4, 9, 12}, false, nil},
		{mat(1, 1, api.MaxEntry), []int{-api.MaxEntry}, true, nil}, {mat(1, 1, api.MaxEntry), []int{api.MaxEntry - 1}, false, nil},
		{mat(1, 1, 1), nil, false, api.ErrShape}, {mat(1, 1, 1), []int{1, 1}, false, api.ErrShape}, {mat(0, 1), []int{0}, false, api.ErrShape},
		{mat(1, 1, 1), []int{api.MaxEntry + 1}, false, api.ErrShape}, {mat(1, 1, 1), []int{math.MinInt}, false, api.ErrShape},
	} {
		if ok, err := Solvable(c.m, c.b); ok != c.want || err != c.err {
			t.Error(c.m, c.b, ok, err)
		}
	}
}

func TestProduct(t *testing.T) {
	for _, c := range []struct {
		a, b Matrix
		want string
		err  error
	}{
		{mat(2, 3, 1, 2, 3, 4, 5, 6), mat(3, 1, 1, 0, -1), "{2 1 [-2 -2]}", nil}, {mat(2, 0), mat(0, 1), "{2 1 [0 0]}", nil}, {mat(0, 2), mat(2, 3, 1, 2, 3, 4, 5, 6), "{0 3 []}", nil}, {mat(0, 0), mat(0, 0), "{0 0 []}", nil},
		{mat(2, 2, 0, 1, 1, 0), mat(2, 2, 1, 2, 3, 4), "{2 2 [3 4 1 2]}", nil},
		{mat(1, 1, api.MaxEntry), mat(1, 1, -1), "{1 1 [-1048576]}", nil}, {mat(1, 2, api.MaxEntry, api.MaxEntry), mat(2, 1, api.MaxEntry, -api.MaxEntry+1), "{1 1 [1048576]}", nil},
		{mat(1, 2, api.MaxEntry, 1), mat(2, 1, 1, 1), "{0 0 []}", api.ErrBound}, {mat(1, 2, api.MaxEntry, 1), mat(2, 1, -1, -1), "{0 0 []}", api.ErrBound}, {mat(1, 1, 1), mat(2, 1, 1, 1), "{0 0 []}", api.ErrShape}, {mat(1, 0), mat(1, 1, 1), "{0 0 []}", api.ErrShape},
		{mat(1, 1, api.MaxEntry), mat(2, 1, 2, 2), "{0 0 []}", api.ErrShape},
	} {
		if p, err := Product(c.a, c.b); fmt.Sprint(p) != c.want || err != c.err {
			t.Error(c.a, c.b, p, err)
		}
	}
	if _, err := Product(mat(61, 0), mat(1, 1)); err != api.ErrBound {
		t.Error("the first matrix comes first", err)
	}
}

// bigRows, a matrix for slow and plain reckoning.
func bigRows(m Matrix) [][]*big.Int {
	out := make([][]*big.Int, m.Rows)
	for i := range out {
		for _, x := range m.L[i*m.Cols : (i+1)*m.Cols] {
			out[i] = append(out[i], big.NewInt(int64(x)))
		}
	}
	return out
}

// plainDet goes along the first row.
func plainDet(l [][]*big.Int) *big.Int {
	if len(l) == 0 {
		return big.NewInt(1)
	}
	sum := new(big.Int)
	for k, x := range l[0] {
		var rest [][]*big.Int
		for _, row := range l[1:] {
			rest = append(rest, slices.Concat(row[:k], row[k+1:]))
		}
		part := new(big.Int).Mul(x, plainDet(rest))
		if k%2 == 1 {
			part.Neg(part)
		}
		sum.Add(sum, part)
	}
	return sum
}

// subsets of 0 to n - 1 that have so many numbers.
func subsets(n, size int) [][]int {
	var out [][]int
	for set := range 1 << n {
		var l []int
		for i := range n {
			if set>>i&1 == 1 {
				l = append(l, i)
			}
		}
		if len(l) == size {
			out = append(out, l)
		}
	}
	return out
}

// plainFactors: the products of the first ones are what all determinants of that many rows and columns have in common.
func plainFactors(m Matrix) []*big.Int {
	l := bigRows(m)
	before := big.NewInt(1)
	var out []*big.Int
	for size := 1; size <= min(m.Rows, m.Cols); size++ {
		common := new(big.Int)
		for _, rows := range subsets(m.Rows, size) {
			for _, cols := range subsets(m.Cols, size) {
				var square [][]*big.Int
				for _, i := range rows {
					var row []*big.Int
					for _, k := range cols {
						row = append(row, l[i][k])
					}
					square = append(square, row)
				}
				det := plainDet(square)
				common.GCD(nil, nil, common, det.Abs(det))
			}
		}
		if common.Sign() == 0 {
			break
		}
		out = append(out, new(big.Int).Quo(common, before))
		before = common
	}
	return out
}

// small matrices with much in common, of all ranks.
func small4(r *rand.Rand) Matrix {
	m := random(r, r.Intn(5), r.Intn(5), []int{1, 2, 6, 40, api.MaxEntry}[r.Intn(5)])
	for i := range m.L {
		if size := []int{1, 2, 3, 6, 12}[r.Intn(5)]; m.L[i]*size <= api.MaxEntry && m.L[i]*size >= -api.MaxEntry {
			m.L[i] *= size
		}
	}
	if m.Rows > 1 && r.Intn(3) == 0 {
		copy(m.L[:m.Cols], m.L[m.Cols:2*m.Cols])
	}
	return m
}

func TestAgainstDeterminantsOfParts(t *testing.T) {
	r := rand.New(rand.NewSource(1))
	bound := big.NewInt(api.MaxFactor)
	for range 6000 {
		m := small4(r)
		want := plainFactors(m)
		got, err := Factors(m)
		if n := len(want); n > 0 && want[n-1].Cmp(bound) > 0 {
			if len(got) > 0 || err != api.ErrBound {
				t.Fatal(m, got, want, err)
			}
		} else if fmt.Sprint(got) != fmt.Sprint(want) || err != nil {
			t.Fatal(m, got, want, err)
		}
		for _, p := range []int{0, 2, 3, 5, 9973} {
			rank := 0
			for _, f := range want {
				if p == 0 || new(big.Int).Mod(f, big.NewInt(int64(p))).Sign() != 0 {
					rank++
				}
			}
			if n, err := Rank(m, p); n != rank || err != nil {
				t.Fatal(m, p, n, rank, err)
			}
		}
		if m.Rows == m.Cols {
			det := plainDet(bigRows(m))
			n, err := Det(m)
			if det.CmpAbs(bound) > 0 && (n != 0 || err != api.ErrBound) || det.CmpAbs(bound) <= 0 && (int64(n) != det.Int64() || err != nil) {
				t.Fatal(m, n, det, err)
			}
		}
	}
}

// beside: the matrix with one more column.
func beside(m Matrix, b []int) Matrix {
	out := Matrix{Rows: m.Rows, Cols: m.Cols + 1}
	for i := range m.Rows {
		out.L = append(append(out.L, m.L[i*m.Cols:(i+1)*m.Cols]...), b[i])
	}
	return out
}

// m x = b has a solution just if b brings nothing new: the factors stay as they are.
func TestSolvableAgainstFactors(t *testing.T) {
	r := rand.New(rand.NewSource(2))
	solved := 0
	for range 6000 {
		m := small4(r)
		x := random(r, m.Cols, 1, 3)
		b := make([]int, m.Rows)
		for i := range b {
			for k := range x.L {
				b[i] += m.L[i*m.Cols+k] * x.L[k]
			}
			if r.Intn(3) == 0 {
				b[i] += r.Intn(5) * 2
			}
			b[i] /= 1 + r.Intn(2)*(1+r.Intn(2))
			b[i] = max(-api.MaxEntry, min(api.MaxEntry, b[i]))
		}
		want := fmt.Sprint(plainFactors(m)) == fmt.Sprint(plainFactors(beside(m, b)))
		if ok, err := Solvable(m, b); ok != want || err != nil {
			t.Fatal(m, b, ok, err)
		}
		if want {
			solved++
		}
	}
	if solved < 1000 || solved > 5000 {
		t.Error("the trials are lopsided:", solved)
	}
}

// mixed: rows and columns are added to each other, so long as the numbers are small enough.
func mixed(r *rand.Rand, m Matrix, steps int) Matrix {
	for range steps {
		to, from, sign := r.Intn(m.Rows), r.Intn(m.Rows), 2*r.Intn(2)-1
		row, count, apart, next := to, m.Cols, from-to, 1
		start, jump := row*m.Cols, apart*m.Cols
		if r.Intn(2) == 0 {
			to, from = r.Intn(m.Cols), r.Intn(m.Cols)
			start, jump, count, next = to, from-to, m.Rows, m.Cols
		}
		if to == from {
			continue
		}
		good := true
		for i := range count {
			at := start + i*next
			good = good && !tooGreat(m.L[at]+sign*m.L[at+jump])
		}
		for i := range count {
			if at := start + i*next; good {
				m.L[at] += sign * m.L[at+jump]
			}
		}
	}
	return m
}

func TestGreatMatricesOfKnownFactors(t *testing.T) {
	r := rand.New(rand.NewSource(3))
	for _, c := range []struct{ rows, cols, rank int }{{60, 60, 60}, {60, 60, 31}, {60, 20, 17}, {13, 60, 13}, {60, 60, 1}} {
		m := zeros(c.rows, c.cols)
		var want []int
		for i := range c.rank {
			f := []int{1, 2, 12, 360}[i*4/c.rank]
			want = append(want, f)
			m.L[i*c.cols+i] = f
		}
		m = mixed(r, m, 3000)
		if l, err := Factors(m); !slices.Equal(l, want) || err != nil {
			t.Error(c, l, err)
		}
		if n, err := Rank(m, 0); n != c.rank || err != nil {
			t.Error(c, n, err)
		}
		x := random(r, c.cols, 1, 1)
		b, err := Product(m, x)
		if err != nil {
			continue
		}
		if ok, err := Solvable(m, b.L); !ok || err != nil {
			t.Error(c, ok, err)
		}
	}
}

func TestGreatestMatrices(t *testing.T) {
	r := rand.New(rand.NewSource(4))
	m := random(r, api.MaxSide, api.MaxSide, api.MaxEntry)
	if n, err := Rank(m, 0); n != api.MaxSide || err != nil {
		t.Error(n, err)
	}
	if n, err := Det(m); n != 0 || err != api.ErrBound {
		t.Error(n, err)
	}
	if l, err := Factors(m); len(l) > 0 || err != api.ErrBound {
		t.Error(l, err)
	}
	if ok, err := Solvable(m, make([]int, api.MaxSide)); !ok || err != nil {
		t.Error(ok, err)
	}
	if ok, err := Solvable(m, m.L[:api.MaxSide]); ok || err != nil {
		t.Error(ok, err)
	}
	column := make([]int, api.MaxSide)
	for i := range column {
		column[i] = m.L[i*api.MaxSide+7]
	}
	if ok, err := Solvable(m, column); !ok || err != nil {
		t.Error(ok, err)
	}
	for i := range m.L {
		m.L[i] = api.MaxEntry
	}
	if l, err := Factors(m); !slices.Equal(l, []int{api.MaxEntry}) || err != nil {
		t.Error(l, err)
	}
}

func TestNothingIsChangedOrShared(t *testing.T) {
	memory := []int{2, 4, 6, 8, 77, math.MaxInt}
	m := Matrix{Rows: 2, Cols: 2, L: memory[:4]}
	side := []int{2, 2, math.MinInt}
	Rank(m, 0)
	Rank(m, 3)
	Factors(m)
	Det(m)
	Solvable(m, side[:2])
	p, err := Product(m, m)
	if err != nil || !slices.Equal(memory, []int{2, 4, 6, 8, 77, math.MaxInt}) || !slices.Equal(side, []int{2, 2, math.MinInt}) {
		t.Error(memory, side, err)
	}
	p.L[0] = 5
	one, _ := Factors(m)
	one[0] = 5
	again, _ := Product(m, m)
	two, _ := Factors(m)
	if memory[0] != 2 || again.L[0] != 28 || two[0] != 2 {
		t.Error(memory, again, two)
	}
}

func TestErrorsAreBare(t *testing.T) {
	_, err := Factors(mat(-1, 0))
	var f *api.Fault
	if err != api.ErrBound || errors.As(err, &f) {
		t.Error(err)
	}
}
