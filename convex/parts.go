package convex

// enough points, that three parts of them have a point in common in their hulls.
const enough = 7

// parted: three parts of spots that all have the point in their hulls, if there are such. Three spots are enough in each; what is left over goes to the first one.
func parted(s sight, n int) ([]int, bool) {
	var sets []uint
	for _, set := range grown(n, atMost(3)) {
		if s.holds(set) {
			sets = append(sets, bitsOf(set))
		}
	}
	for i, first := range sets {
		for k, second := range sets[i+1:] {
			if first&second != 0 {
				continue
			}
			for _, third := range sets[i+k+2:] {
				if (first|second)&third == 0 {
					return numbered(n, second, third), true
				}
			}
		}
	}
	return nil, false
}

// bitsOf a set: one for each of its numbers.
func bitsOf(set []int) uint {
	var out uint
	for _, i := range set {
		out |= 1 << i
	}
	return out
}

// numbered: for each spot its part, 0 where it is in neither set.
func numbered(n int, second, third uint) []int {
	out := make([]int, n)
	for i := range out {
		out[i] = int(second>>i&1 + 2*(third>>i&1))
	}
	return out
}
