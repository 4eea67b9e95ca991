package label

// maxHalf: the greatest size of a square's coordinates.
const maxHalf = 6

// width: how many points a row of the square has.
func width(n int) int { return 2*n + 1 }

// place (x, y) of a point.
func place(n, at int) (x, y int) {
	return at%width(n) - n, at/width(n) - n
}

// fits: a label is one, and, on the rim, the opposite of the opposite point's, which is as far from the end as this one from the start.
func fits(n int, labels []int, at int) bool {
	switch labels[at] {
	case 1, -1, 2, -2:
		return !rim(n, at) || labels[len(labels)-1-at] == -labels[at]
	}
	return false
}

func rim(n, at int) bool {
	x, y := place(n, at)
	return x == -n || x == n || y == -n || y == n
}

// cut small squares into small triangles: corners by their numbers, each rising.
func cut(n int) [][3]int {
	var out [][3]int
	for at := range width(n) * width(n) {
		x, y := place(n, at)
		if x == n || y == n { // no lower left corner
			continue
		}
		right, above := at+1, at+width(n)
		last := above + 1
		if (x >= 0) == (y >= 0) { // of the middle, half a step on, just so: it is never 0
			out = append(out, [3]int{at, right, last}, [3]int{at, above, last})
		} else {
			out = append(out, [3]int{at, right, above}, [3]int{right, above, last})
		}
	}
	return out
}
