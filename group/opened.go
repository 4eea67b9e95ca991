package group

import "handlebody/api"

// opened cosets: a table of all that were opened, and for each the same one or a lesser one that is the same. What the table says of a coset is to be taken for what stands for it.
type opened struct {
	table
	generators int
	same       []int
}

func begin(generators int) *opened {
	return &opened{table: blank(1, generators), generators: generators, same: []int{0}}
}

// stands: what stands for a coset.
func (o *opened) stands(coset int) int {
	for o.same[coset] != coset {
		o.same[coset] = o.same[o.same[coset]] // so that the way is shorter next time
		coset = o.same[coset]
	}
	return coset
}

// fill the table: the work is done at each coset that stands for itself, in order, at those that it opens, too, as long as it goes well.
func (o *opened) fill(work func(coset int) bool) bool {
	for coset := 0; coset < len(o.rows); coset++ {
		if o.stands(coset) == coset && !work(coset) {
			return false
		}
	}
	return true
}

// step along a column to a coset, which is opened if there is none; false: there would be too many.
func (o *opened) step(coset, column int) (int, bool) {
	coset = o.stands(coset)
	if to := o.rows[coset][column]; to != nowhere {
		return to, true
	}
	next := len(o.rows)
	if next == api.MaxRows {
		return 0, false
	}
	o.addRow(o.generators)
	o.same = append(o.same, next)
	o.set(coset, column, next)
	return next, true
}

// trace a word; false: there would be too many cosets.
func (o *opened) trace(coset int, word []int) bool {
	last, ok := coset, true
	for _, letter := range word {
		if last, ok = o.step(last, column(letter)); !ok {
			return false
		}
	}
	o.unite(coset, last)
	return true
}

// traceAll words from what stands for a coset, at each of them anew.
func (o *opened) traceAll(coset int, words [][]int) bool {
	for _, word := range words {
		if !o.trace(coset, word) {
			return false
		}
	}
	return true
}

// openAll that no letter of a coset leads to yet.
func (o *opened) openAll(coset int) bool {
	for column := range 2 * o.generators {
		if _, ok := o.step(coset, column); !ok {
			return false
		}
	}
	return true
}

// unite two cosets that are the same, and all that are the same therefore.
func (o *opened) unite(a, b int) {
	pairs := [][2]int{{a, b}}
	for len(pairs) > 0 {
		p := pairs[len(pairs)-1]
		pairs = pairs[:len(pairs)-1]
		a, b := o.stands(p[0]), o.stands(p[1])
		if a != b {
			pairs = append(pairs, o.take(min(a, b), max(a, b))...)
		}
	}
}

// take over what leads from a coset to one that stands for it from now on; told are those that must be the same as both lead to them.
func (o *opened) take(keeper, coset int) [][2]int {
	o.same[coset] = keeper
	var pairs [][2]int
	for column, to := range o.rows[coset] {
		if to == nowhere {
			continue
		}
		if kept := o.rows[keeper][column]; kept != nowhere {
			pairs = append(pairs, [2]int{kept, to})
		} else {
			o.rows[keeper][column] = to
		}
	}
	return pairs
}

// told: the rows of those that stand for themselves, numbered in the order in which they are led to. (Each was opened by a letter, so each is led to from 0.)
func (o *opened) told() [][]int {
	order := []int{0}
	number := make([]int, len(o.rows)) // from 1 on
	number[0] = 1
	var out [][]int
	for i := 0; i < len(order); i++ {
		row := make([]int, 2*o.generators)
		for column, to := range o.rows[order[i]] {
			to = o.stands(to)
			if number[to] == 0 {
				order = append(order, to)
				number[to] = len(order)
			}
			row[column] = number[to] - 1
		}
		out = append(out, row)
	}
	return out
}
