package label

import (
	"slices"

	"handlebody/api"
)

func checkParts(n int) error {
	if n < 1 || n > api.MaxParts {
		return api.ErrBound
	}
	return nil
}

// points (i, j, k) with the sum n, by their numbers; none if n is below 0.
func points(n int) [][3]int {
	var out [][3]int
	for i := range n + 1 {
		for j := range n - i + 1 {
			out = append(out, [3]int{i, j, n - i - j})
		}
	}
	return out
}

// number of the point (i, j, n-i-j): rows of n+1, n, n-1 .. points are ahead of row i.
func number(n, i, j int) int {
	return i*(n+1) - i*(i-1)/2 + j
}

// small triangles by their corners, each rising, sorted.
func small(n int) [][3]int {
	var out [][3]int
	for _, p := range points(n - 1) {
		i, j := p[0], p[1]
		out = append(out, [3]int{number(n, i, j), number(n, i, j+1), number(n, i+1, j)})
	}
	for _, p := range points(n - 2) {
		i, j := p[0], p[1]
		out = append(out, [3]int{number(n, i, j+1), number(n, i+1, j), number(n, i+1, j+1)})
	}
	slices.SortFunc(out, func(a, b [3]int) int { return slices.Compare(a[:], b[:]) })
	return out
}

// may a point have a label: only if its coordinate of that number is not 0.
func may(p [3]int, label int) bool {
	return label >= 0 && label < len(p) && p[label] != 0
}

// full: labels 0, 1, 2 are all there if no two of three are the same.
func full(labels []int, t [3]int) bool {
	a, b, c := labels[t[0]], labels[t[1]], labels[t[2]]
	return a != b && a != c && b != c
}

// sides of a small triangle; its corners rise, and so do theirs.
func sides(t [3]int) [3][2]int {
	return [3][2]int{{t[0], t[1]}, {t[0], t[2]}, {t[1], t[2]}}
}
