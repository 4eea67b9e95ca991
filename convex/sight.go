package convex

import "handlebody/api"

// sight of spots from a point, for each two of them.
type sight struct {
	turns   [][]int  // the sign of the turn from one to the other
	between [][]bool // the point lies between both, or is one of them
}

// look at spots from a point.
func look(from place, l []api.Spot) sight {
	arrows := make([]place, len(l))
	for i, s := range l {
		arrows[i] = placeOf(s).with(from, ratio.minus)
	}
	var out sight
	for _, p := range arrows {
		turns, between := make([]int, len(l)), make([]bool, len(l))
		for k, q := range arrows {
			turns[k] = turn(p, q).sign()
			between[k] = turns[k] == 0 && agree(p, q).sign() <= 0
		}
		out.turns = append(out.turns, turns)
		out.between = append(out.between, between)
	}
	return out
}

// holds a set of spots the point in its hull? What is in a hull is so in that of three of its spots, at most: a corner, in between two, or such that one turns all around by going from the first to the second, the third, and back.
func (s sight) holds(set []int) bool {
	for a, i := range set {
		for b, j := range set[a:] {
			if s.between[i][j] {
				return true
			}
			for _, k := range set[a+b+1:] {
				if s.around(i, j, k) {
					return true
				}
			}
		}
	}
	return false
}

func (s sight) around(i, j, k int) bool {
	way := s.turns[i][j]
	return way != 0 && way == s.turns[j][k] && way == s.turns[k][i]
}

// corners that the common points of hulls of some of the spots can have: spots, and crossings of two sides. (From elsewhere one can go on both ways, and stay in all hulls.)
func corners(l []api.Spot) []place {
	var out []place
	for _, s := range l {
		out = append(out, placeOf(s))
	}
	for _, set := range grown(len(l), atMost(4)) {
		if len(set) < 4 {
			continue
		}
		a, b, c, d := out[set[0]], out[set[1]], out[set[2]], out[set[3]]
		for _, sides := range [][4]place{{a, b, c, d}, {a, c, b, d}, {a, d, b, c}} {
			if p, ok := crossing(sides[0], sides[1], sides[2], sides[3]); ok {
				out = append(out, p)
			}
		}
	}
	return out
}
