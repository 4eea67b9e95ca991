package persist

import (
	"cmp"

	"handlebody/api"
)

// bars of all pairs whose times are unlike.
func (s *story) bars(workers int) []api.Bar {
	var out []api.Bar
	for _, p := range s.pairs(workers) {
		b := api.Bar{Dim: s.dim(p[0]), Birth: s.times[p[0]], Death: never}
		if p[1] != never {
			b.Death = s.times[p[1]]
		}
		if b.Birth != b.Death {
			out = append(out, b)
		}
	}
	return out
}

// dim of a face: it has as many parts as vertices, but a single vertex has none.
func (s *story) dim(face int) int { return max(len(s.parts[face])-1, 0) }

// compareBars by Dim, Birth, Death.
func compareBars(a, b api.Bar) int {
	return cmp.Or(cmp.Compare(a.Dim, b.Dim), cmp.Compare(a.Birth, b.Birth), cmp.Compare(end(a), end(b)))
}

// end of a bar: behind all times, if it is for ever.
func end(b api.Bar) int {
	if b.Death == never {
		return maxTime + 1
	}
	return b.Death
}

// holds: is a time in a bar? (One for ever has also those above maxTime.)
func holds(b api.Bar, at int) bool {
	return b.Birth <= at && (b.Death == never || b.Death > at)
}
