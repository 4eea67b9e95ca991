package convex

import (
	"math"
	"math/big"
	"math/rand"
	"testing"

	"handlebody/api"
	"handlebody/whole"
)

func bigOf(n whole.Nat) *big.Int {
	out := new(big.Int)
	for i := len(n) - 1; i >= 0; i-- {
		out.Or(out.Lsh(out, 64), new(big.Int).SetUint64(n[i]))
	}
	return out
}

// held against the library: the same number, in its lowest terms.
func held(t *testing.T, r ratio, want *big.Rat, about ...any) {
	t.Helper()
	over := bigOf(r.over)
	if r.below {
		over.Neg(over)
	}
	if over.Cmp(want.Num()) != 0 || bigOf(r.under).Cmp(want.Denom()) != 0 || r.below != (want.Sign() < 0) || r.sign() != want.Sign() {
		t.Error(append(about, r, want)...)
	}
}

func TestRatiosOfNumbers(t *testing.T) {
	for _, n := range []int{0, 1, -1, 7, -4096, 1 << 40, math.MaxInt, math.MinInt, math.MinInt + 1} {
		held(t, ratioOf(n), big.NewRat(int64(n), 1), n)
	}
	for _, f := range []api.Frac{{Num: 0, Den: 1}, {Num: -3, Den: 7}, {Num: 1 << 40, Den: 1<<40 - 1}, {Num: -1 << 40, Den: 3}} {
		held(t, ratioOfFrac(f), big.NewRat(int64(f.Num), int64(f.Den)), f)
		if got := ratioOfFrac(f).told(); got != f {
			t.Error(f, got)
		}
	}
}

// TestRatioSteps: long runs, in which numbers grow over machine words.
func TestRatioSteps(t *testing.T) {
	r := rand.New(rand.NewSource(120))
	for range 200 {
		a, want := ratioOf(1), big.NewRat(1, 1)
		for range 12 {
			f := frac(r.Intn(1<<41)-1<<40, 1+r.Intn(1<<40))
			if r.Intn(3) == 0 {
				f = frac(r.Intn(9)-4, 1+r.Intn(4))
			}
			b, other := ratioOfFrac(f), big.NewRat(int64(f.Num), int64(f.Den))
			if got := a.compare(b); got != want.Cmp(other) {
				t.Error(a, b, got)
			}
			switch step := r.Intn(4); {
			case step == 0:
				a, want = a.plus(b), add(want, other)
			case step == 1:
				a, want = a.minus(b), sub(want, other)
			case step == 2 || b.sign() == 0:
				a, want = a.times(b), mul(want, other)
			default:
				a, want = a.divide(b), new(big.Rat).Quo(want, other)
			}
			held(t, a, want, f)
		}
		held(t, a.minus(a), new(big.Rat))
		if a.compare(a) != 0 {
			t.Error(a)
		}
	}
}
