package index

import (
	"math"

	"handlebody/api"
)

// line, straight, from a point of the plane to another one. Parts are whole numbers, so small that what is multiplied here is not rounded.
type line struct{ from, to complex128 }

// isWhole: are all parts whole numbers, none too great?
func isWhole(path []complex128) bool {
	for _, p := range path {
		if !isWholePart(real(p)) || !isWholePart(imag(p)) {
			return false
		}
	}
	return true
}

func isWholePart(x float64) bool { return math.Abs(x) <= api.MaxEntry && x == math.Trunc(x) }

// turn of the line, seen from 0: its real part is above 0 where the ends are on one side of 0, its imaginary one where the way goes against the clock.
func (l line) turn() complex128 { return complex(real(l.from), -imag(l.from)) * l.to }

func (l line) hasZero() bool {
	turn := l.turn()
	return imag(turn) == 0 && real(turn) <= 0
}

// crossing of the half-line from 0 to the right, which counts as above: 1 against the clock, -1 with it, else 0.
func (l line) crossing() int {
	isBelow, goesBelow := imag(l.from) < 0, imag(l.to) < 0
	turn := imag(l.turn())
	switch {
	case isBelow && !goesBelow && turn > 0:
		return 1
	case goesBelow && !isBelow && turn < 0:
		return -1
	}
	return 0
}
