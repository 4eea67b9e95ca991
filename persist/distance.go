package persist

import (
	"slices"
	"sort"

	"handlebody/api"
)

// maxBars of one dimension that are matched.
const maxBars = 60

func ofDim(l []api.Bar, dim int) []api.Bar {
	var out []api.Bar
	for _, b := range l {
		if b.Dim == dim {
			out = append(out, b)
		}
	}
	return out
}

// isNone: is it no bar?
func isNone(b api.Bar) bool {
	return isNoTime(b.Birth) || b.Death != never && (b.Death <= b.Birth || b.Death > maxTime)
}

// split bars: the births of those for ever, rising, and the others.
func split(l []api.Bar) (births []int, others []api.Bar) {
	for _, b := range l {
		if b.Death == never {
			births = append(births, b.Birth)
		} else {
			others = append(others, b)
		}
	}
	slices.Sort(births)
	return births, others
}

// farthest, twice: of births for ever no other way than in their order has a lesser one.
func farthest(a, b []int) int {
	out := 0
	for i := range a {
		out = max(out, 2*apart(a[i], b[i]))
	}
	return out
}

// bottleneck, twice, of bars that end: what is enough is so for all that is greater, and no bar is longer than maxTime, which is enough if none is matched.
func bottleneck(a, b []api.Bar) int {
	return sort.Search(maxTime, func(most int) bool { return isEnough(a, b, most) })
}

// isEnough: are there ways to match so that nothing costs more? Where the long bars of each side can be matched by themselves, the long bars of both can be matched at once (MENDELSOHN and DULMAGE).
func isEnough(a, b []api.Bar, most int) bool {
	return fits(longer(a, most), b, most) && fits(longer(b, most), a, most)
}

// longer bars: those which cost more if they are not matched.
func longer(l []api.Bar, most int) []api.Bar {
	var out []api.Bar
	for _, b := range l {
		if b.Death-b.Birth > most {
			out = append(out, b)
		}
	}
	return out
}

// fits: can each of these bars be matched with one of the others?
func fits(bars, others []api.Bar, most int) bool {
	m := match{bars: bars, others: others, most: most, by: make([]int, len(others))}
	for k := range m.by {
		m.by[k] = free
	}
	for i := range bars {
		if !m.put(i, make([]bool, len(others))) {
			return false
		}
	}
	return true
}

// free: nothing is matched with it.
const free = -1

// match of bars with others, of which no two cost more than most, twice.
type match struct {
	bars, others []api.Bar
	most         int
	by           []int // of each of the others: which bar it is matched with
}

// put a bar to one that is free, or whose own bar can be put elsewhere. What was asked in vain is not asked again.
func (m *match) put(i int, asked []bool) bool {
	for k, other := range m.others {
		if asked[k] || cost(m.bars[i], other) > m.most {
			continue
		}
		asked[k] = true
		if m.by[k] == free || m.put(m.by[k], asked) {
			m.by[k] = i
			return true
		}
	}
	return false
}

// cost of two bars that are matched, twice.
func cost(a, b api.Bar) int {
	return 2 * max(apart(a.Birth, b.Birth), apart(a.Death, b.Death))
}

func apart(a, b int) int { return max(a-b, b-a) }
