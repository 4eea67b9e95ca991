package group

import "slices"

// table of cosets: a row for each; where the letters 1, -1, 2, -2, .. lead, or nowhere.
type table struct{ rows [][]int }

const nowhere = -1

// blank table, in which nothing leads anywhere.
func blank(rows, generators int) table {
	var t table
	for range rows {
		t.addRow(generators)
	}
	return t
}

func (t *table) addRow(generators int) {
	t.rows = append(t.rows, slices.Repeat([]int{nowhere}, 2*generators))
}

// column of a letter in a table.
func column(letter int) int {
	if letter > 0 {
		return 2 * (letter - 1)
	}
	return 2*(-letter-1) + 1
}

// back: the column of the opposite letter.
func back(column int) int { return column ^ 1 }

// set where a column leads, and back.
func (t table) set(coset, column, to int) {
	t.rows[coset][column] = to
	t.rows[to][back(column)] = coset
}

// unset what set has set.
func (t table) unset(coset, column, to int) {
	t.rows[coset][column] = nowhere
	t.rows[to][back(column)] = nowhere
}

// hole: the first place, row by row, that leads nowhere; false: there is none.
func (t table) hole() (coset, column int, ok bool) {
	for coset, row := range t.rows {
		if column := slices.Index(row, nowhere); column >= 0 {
			return coset, column, true
		}
	}
	return 0, 0, false
}

// complete the table in all ways in which each coset is first led to in its turn, and hand each to what is to be done with it. The first so many are led to already. (As holes are filled in their order, the ways come rising.)
func (t table) complete(led int, use func(t table)) {
	coset, column, ok := t.hole()
	switch {
	case !ok && led == len(t.rows):
		use(t)
		return
	case !ok || coset >= led: // nothing from 0 on can lead there any more
		return
	}
	for to := range min(led+1, len(t.rows)) {
		if t.rows[to][back(column)] == nowhere {
			t.set(coset, column, to)
			t.complete(max(led, to+1), use)
			t.unset(coset, column, to)
		}
	}
}

// keeps: does each of these words lead, in a full table, from each coset back to it?
func (t table) keeps(words [][]int) bool {
	for _, word := range words {
		for coset := range t.rows {
			if t.walk(coset, word) != coset {
				return false
			}
		}
	}
	return true
}

// walk in a full table.
func (t table) walk(coset int, word []int) int {
	for _, letter := range word {
		coset = t.rows[coset][column(letter)]
	}
	return coset
}

func (t table) copied() [][]int {
	var out [][]int
	for _, row := range t.rows {
		out = append(out, append([]int{}, row...))
	}
	return out
}

// ways of giving each generator a permutation of so many. (Of a group that is Valid, and up to MaxIndex, this stays in a machine word.)
func ways(index, generators int) int {
	permutations := 1
	for i := range index {
		permutations *= i + 1
	}
	out := 1
	for range generators {
		out *= permutations
	}
	return out
}
