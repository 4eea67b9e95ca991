package convex

import (
	"slices"

	"handlebody/api"
	"handlebody/whole"
)

// maxTerm: the greatest size of a number of a fraction.
const maxTerm = 1 << 40

// far: a coordinate is too great.
func far(s api.Spot) bool { return !upTo(s.X, api.MaxPlace) || !upTo(s.Y, api.MaxPlace) }

func upTo(n, most int) bool { return n >= -most && n <= most }

func checkSpots(l []api.Spot) error {
	if len(l) > api.MaxPoints {
		return api.ErrBound
	}
	if slices.ContainsFunc(l, far) {
		return api.ErrShape
	}
	return nil
}

// lowest terms, which are not too great?
func lowest(f api.Frac) bool {
	return upTo(f.Num, maxTerm) && f.Den > 0 && f.Den <= maxTerm && whole.Of(size(f.Num)).Gcd(whole.Of(size(f.Den))).IsOne()
}
