package convex

import "handlebody/api"

// all: the box of all points that are not too far.
func all() Box {
	return Box{
		Low:  api.Spot{X: -api.MaxPlace, Y: -api.MaxPlace},
		High: api.Spot{X: api.MaxPlace, Y: api.MaxPlace},
	}
}

// meet of two boxes; it is empty if its Low is above its High.
func (b Box) meet(c Box) Box {
	return Box{
		Low:  api.Spot{X: max(b.Low.X, c.Low.X), Y: max(b.Low.Y, c.Low.Y)},
		High: api.Spot{X: min(b.High.X, c.High.X), Y: min(b.High.Y, c.High.Y)},
	}
}

func (b Box) empty() bool { return b.Low.X > b.High.X || b.Low.Y > b.High.Y }

// common points of the boxes of a set.
func common(l []Box, set []int) Box {
	out := all()
	for _, i := range set {
		out = out.meet(l[i])
	}
	return out
}

func checkBoxes(l []Box) error {
	if len(l) > api.MaxPoints {
		return api.ErrBound
	}
	for _, b := range l {
		if far(b.Low) || far(b.High) || b.empty() {
			return api.ErrShape
		}
	}
	return nil
}
