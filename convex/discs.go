package convex

import (
	"slices"

	"handlebody/api"
	"handlebody/cells"
)

// maxSquare of a distance.
const maxSquare = 1 << 40

// apart: the square of how far two spots are from each other.
func apart(a, b api.Spot) int {
	x, y := a.X-b.X, a.Y-b.Y
	return x*x + y*y
}

// inDisc: do three spots lie in a disc whose radius squared is at most square? The least disc has the longest side as its diameter, unless all angles are sharp: then it has all three on its rim, and its radius squared is the sides' squares, multiplied, through 4 times the square of twice the triangle's area.
func inDisc(a, b, c api.Spot, square int) bool {
	sides := []int{apart(a, b), apart(a, c), apart(b, c)}
	slices.Sort(sides)
	if sides[2] >= sides[0]+sides[1] {
		return sides[2] <= 4*square
	}
	area := ratioOf((b.X-a.X)*(c.Y-a.Y) - (b.Y-a.Y)*(c.X-a.X))
	product := ratioOf(sides[0]).times(ratioOf(sides[1])).times(ratioOf(sides[2]))
	return product.compare(ratioOf(4*square).times(area).times(area)) <= 0
}

// joined: the complex of sets of one, two or three spots that are near. Of fewer than three, one is handed over twice or three times, which changes neither how far they are from each other nor which discs they lie in.
func joined(l []api.Spot, square int, near func(a, b, c api.Spot) bool) (cells.Complex, error) {
	if err := checkSpots(l); err != nil {
		return cells.Complex{}, err
	}
	if square < 0 || square > maxSquare {
		return cells.Complex{}, api.ErrShape
	}
	return cells.Make(grown(len(l), func(set []int) bool {
		last := len(set) - 1
		return last < 3 && near(l[set[0]], l[set[last/2]], l[set[last]])
	}))
}
