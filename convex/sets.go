package convex

import "slices"

// grown sets of the numbers below n that are fit, each rising, one that begins another one ahead of it. What is not fit has nothing fit that begins with it.
func grown(n int, fit func(set []int) bool) [][]int {
	var out [][]int
	var grow func(set []int, from int)
	grow = func(set []int, from int) {
		for i := from; i < n; i++ {
			next := append(slices.Clone(set), i)
			if fit(next) {
				out = append(out, next)
				grow(next, i+1)
			}
		}
	}
	grow(nil, 0)
	return out
}

// others of the numbers below n.
func others(n int, set []int) []int {
	var out []int
	for i := range n {
		if !slices.Contains(set, i) {
			out = append(out, i)
		}
	}
	return out
}

// atMost so many in a set.
func atMost(most int) func(set []int) bool {
	return func(set []int) bool { return len(set) <= most }
}
