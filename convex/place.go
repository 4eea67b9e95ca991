package convex

import (
	"cmp"

	"handlebody/api"
)

// place: a point of the plane, or an arrow from one to another.
type place struct{ x, y ratio }

func placeOf(s api.Spot) place { return place{ratioOf(s.X), ratioOf(s.Y)} }

func (p place) told() Point { return Point{X: p.x.told(), Y: p.y.told()} }

// compare X, then Y.
func (p place) compare(q place) int {
	return cmp.Or(p.x.compare(q.x), p.y.compare(q.y))
}

// with another one: what is to be done is done to both coordinates.
func (p place) with(q place, do func(ratio, ratio) ratio) place {
	return place{do(p.x, q.x), do(p.y, q.y)}
}

// along: so many times an arrow.
func (p place) along(arrow place, times ratio) place {
	return p.with(arrow.with(place{times, times}, ratio.times), ratio.plus)
}

// turn from one arrow to another: above 0 to the left, below 0 to the right, 0 on one line; in size, the area between them.
func turn(p, q place) ratio { return p.x.times(q.y).minus(p.y.times(q.x)) }

// agree: below 0 if two arrows go against each other, 0 if they are at right angles or one goes nowhere.
func agree(p, q place) ratio { return p.x.times(q.x).plus(p.y.times(q.y)) }

// crossing of the lines through a and b, c and d; false: they are on one line or go the same way, or one is no line.
func crossing(a, b, c, d place) (place, bool) {
	first, second := b.with(a, ratio.minus), d.with(c, ratio.minus)
	area := turn(first, second)
	if area.sign() == 0 {
		return place{}, false
	}
	times := turn(c.with(a, ratio.minus), second).divide(area)
	return a.along(first, times), true
}
