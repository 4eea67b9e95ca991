package convex

import (
	"handlebody/api"
	"handlebody/whole"
)

// ratio: a fraction of any size in its lowest terms, as products of those that are handed in leave machine words.
type ratio struct {
	below       bool // less than 0
	over, under whole.Nat
}

// reduced to its lowest terms; under is not 0.
func reduced(below bool, over, under whole.Nat) ratio {
	common := over.Gcd(under)
	over, _ = over.Divide(common)
	under, _ = under.Divide(common)
	return ratio{below && !over.IsZero(), over, under}
}

func ratioOf(n int) ratio { return ratio{n < 0, whole.Of(size(n)), whole.Of(1)} }

func ratioOfFrac(f api.Frac) ratio {
	return reduced(f.Num < 0, whole.Of(size(f.Num)), whole.Of(size(f.Den)))
}

// size of a number; the least one has one, too, as it wraps round to it.
func size(n int) uint64 {
	if n < 0 {
		return -uint64(n)
	}
	return uint64(n)
}

// told: of spots' crossings both numbers fit machine words, by far.
func (r ratio) told() api.Frac {
	over, _ := r.over.Word()
	under, _ := r.under.Word()
	if r.below {
		return api.Frac{Num: -int(over), Den: int(under)}
	}
	return api.Frac{Num: int(over), Den: int(under)}
}

func (r ratio) sign() int {
	switch {
	case r.over.IsZero():
		return 0
	case r.below:
		return -1
	}
	return 1
}

func (r ratio) plus(s ratio) ratio {
	a, b := r.over.Times(s.under), s.over.Times(r.under)
	under := r.under.Times(s.under)
	if r.below == s.below {
		return reduced(r.below, a.Plus(b), under)
	}
	if a.Compare(b) < 0 {
		return reduced(s.below, b.Minus(a), under)
	}
	return reduced(r.below, a.Minus(b), under)
}

func (r ratio) minus(s ratio) ratio {
	return r.plus(ratio{!s.below, s.over, s.under})
}

func (r ratio) times(s ratio) ratio {
	return reduced(r.below != s.below, r.over.Times(s.over), r.under.Times(s.under))
}

// divide by what is not 0.
func (r ratio) divide(s ratio) ratio {
	return r.times(ratio{s.below, s.under, s.over})
}

func (r ratio) compare(s ratio) int { return r.minus(s).sign() }
