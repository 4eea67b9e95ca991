package morse

import (
	"handlebody/api"
	"handlebody/whole"
)

// sumsTo a critical face: a function that tells, of one with one vertex more, the sum of the signs of all paths.
func (f field) sumsTo(goal int) func(face int) sum {
	sums := map[int]sum{}
	var from func(part int) sum
	down := func(face, but int) sum {
		var out sum
		for _, x := range f.sides[face] {
			if x.face != but {
				out = out.plus(from(x.face).times(x.sign))
			}
		}
		return out
	}
	from = func(part int) sum {
		if part == goal {
			return sum{more: whole.Of(1)}
		}
		over, ok := f.up(part)
		if !ok {
			return sum{}
		}
		known, ok := sums[part]
		if !ok {
			known = down(over, part).times(-f.sign(over, part))
			sums[part] = known
		}
		return known
	}
	return func(face int) sum { return down(face, none) }
}

// sign of a face to its side.
func (f field) sign(face, part int) int {
	for _, x := range f.sides[face] {
		if x.face == part {
			return x.sign
		}
	}
	return 0
}

// sum of signs: those above 0 and those below are counted apart, as far as it takes: there may be more paths than a machine word counts, though few are left when the two are held against each other.
type sum struct{ more, less whole.Nat }

func (s sum) plus(o sum) sum {
	if o.more.IsZero() && o.less.IsZero() {
		return s
	}
	return sum{s.more.Plus(o.more), s.less.Plus(o.less)}
}

func (s sum) times(sign int) sum {
	if sign < 0 {
		return sum{s.less, s.more}
	}
	return s
}

// entry of a matrix; false: it is too great for one.
func (s sum) entry() (int, bool) {
	above, below := s.more.Minus(s.less), s.less.Minus(s.more) // one of them is 0
	size, ok := above.Plus(below).Word()
	if !ok || size > api.MaxEntry {
		return 0, false
	}
	if above.IsZero() {
		return -int(size), true
	}
	return int(size), true
}
