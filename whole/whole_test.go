package whole

import (
	"math"
	"math/big"
	"math/rand"
	"testing"
)

func toBig(a Nat) *big.Int {
	out := new(big.Int)
	for i := len(a) - 1; i >= 0; i-- {
		out.Lsh(out, 64)
		out.Or(out, new(big.Int).SetUint64(a[i]))
	}
	return out
}

// same: also that the last word is not 0.
func same(a Nat, want *big.Int) bool {
	return toBig(a).Cmp(want) == 0 && (len(a) == 0 || a[len(a)-1] != 0)
}

// pick a number whose words are often at the edges, where a digit of a quotient is guessed badly.
func pick(r *rand.Rand, most int) Nat {
	edges := []uint64{0, 1, 2, 1 << 32, 1<<63 - 1, 1 << 63, 1<<63 + 1, math.MaxUint64 - 1, math.MaxUint64}
	out := make(Nat, r.Intn(most+1))
	for i := range out {
		if out[i] = r.Uint64(); r.Intn(3) > 0 {
			out[i] = edges[r.Intn(len(edges))]
		}
	}
	return trim(out)
}

func TestSumsAndProducts(t *testing.T) {
	r := rand.New(rand.NewSource(1))
	for range 20000 {
		a, b := pick(r, 6), pick(r, 6)
		x, y := toBig(a), toBig(b)
		if !same(a.Plus(b), new(big.Int).Add(x, y)) {
			t.Fatal("sum", a, b)
		}
		if !same(a.Times(b), new(big.Int).Mul(x, y)) {
			t.Fatal("product", a, b)
		}
		if c := a.Compare(b); (c < 0) != (x.Cmp(y) < 0) || (c > 0) != (x.Cmp(y) > 0) {
			t.Fatal("compare", a, b)
		}
		difference := new(big.Int).Sub(x, y)
		if difference.Sign() < 0 {
			difference.SetInt64(0)
		}
		if !same(a.Minus(b), difference) {
			t.Fatal("difference", a, b)
		}
	}
}

func TestDivide(t *testing.T) {
	r := rand.New(rand.NewSource(2))
	for range 200000 {
		a, b := pick(r, 8), pick(r, 5)
		quotient, rest := a.Divide(b)
		if b.IsZero() {
			if !quotient.IsZero() || rest.Compare(a) != 0 {
				t.Fatal("by 0", a, quotient, rest)
			}
			continue
		}
		x, y := new(big.Int).QuoRem(toBig(a), toBig(b), new(big.Int))
		if !same(quotient, x) || !same(rest, y) {
			t.Fatal(a, b, quotient, rest)
		}
	}
}

func TestPower(t *testing.T) {
	r := rand.New(rand.NewSource(3))
	for n := range 20 {
		a := pick(r, 3)
		if !same(a.Power(n), new(big.Int).Exp(toBig(a), big.NewInt(int64(n)), nil)) {
			t.Fatal(a, n)
		}
	}
}

func TestGcdAndInverse(t *testing.T) {
	r := rand.New(rand.NewSource(4))
	for range 20000 {
		common := pick(r, 2)
		a, b := pick(r, 4).Times(common), pick(r, 4).Times(common)
		gcd := new(big.Int).GCD(nil, nil, toBig(a), toBig(b))
		if !same(a.Gcd(b), gcd) {
			t.Fatal("gcd", a, b)
		}
		if b.IsZero() {
			continue
		}
		inverse := a.Inverse(b)
		if inverse.Compare(b) >= 0 {
			t.Fatal("inverse is not below", a, b, inverse)
		}
		_, got := inverse.Times(a).Divide(b)
		if !same(got, gcd.Mod(gcd, toBig(b))) {
			t.Fatal("inverse", a, b, inverse)
		}
	}
}

func TestWord(t *testing.T) {
	for _, x := range []uint64{0, 1, 2, math.MaxUint64} {
		a := Of(x)
		if w, ok := a.Word(); w != x || !ok || a.IsZero() != (x == 0) || a.IsOne() != (x == 1) {
			t.Error(x, a, w, ok)
		}
	}
	if w, ok := Of(math.MaxUint64).Plus(Of(1)).Word(); w != 0 || ok {
		t.Error(w, ok)
	}
}

func TestArgumentsAreOnlyRead(t *testing.T) {
	a, b := Nat{5, math.MaxUint64, 1 << 63}, Nat{7, 1 << 63}
	a.Plus(b)
	a.Minus(b)
	a.Times(b)
	a.Divide(b)
	a.Gcd(b)
	b.Inverse(a)
	if a.Compare(Nat{5, math.MaxUint64, 1 << 63}) != 0 || b.Compare(Nat{7, 1 << 63}) != 0 {
		t.Error(a, b)
	}
}
