package cover

import (
	"handlebody/api"
	"handlebody/cells"
	"handlebody/group"
)

// covering: a table that was asked, and what goes where.
type covering struct {
	table   [][]int
	places  map[int]int    // of vertices: how many are less
	letters map[[2]int]int // from a vertex to a neighbour or to itself: the generator, backward below 0; or stay
}

// stay: the letter that leads from each sheet to itself, of edges of the tree.
const stay = 0

// open a table for a complex.
func open(c cells.Complex, table [][]int) (covering, error) {
	g, generators, err := group.Fundamental(c)
	if err != nil {
		return covering{}, err
	}
	if err := check(g, table); err != nil {
		return covering{}, err
	}
	k := covering{table: table, places: map[int]int{}, letters: map[[2]int]int{}}
	for i, v := range faces(c, 0) {
		k.places[v[0]] = i
		k.lead(v[0], v[0], stay)
	}
	for _, e := range faces(c, 1) {
		k.lead(e[0], e[1], stay)
	}
	for i, e := range generators {
		k.lead(e[0], e[1], i+1)
	}
	return k, nil
}

// faces of a dimension, in order, of a complex that was asked already: there is no error to tell.
func faces(c cells.Complex, dim int) [][]int {
	l, _ := cells.Faces(c, dim)
	return l
}

// lead from a vertex to another one by a letter, and back by its opposite.
func (k covering) lead(from, to, letter int) {
	k.letters[[2]int{from, to}] = letter
	k.letters[[2]int{to, from}] = -letter
}

// above: what is above each of these faces, sheet by sheet.
func (k covering) above(faces [][]int) [][]int {
	var out [][]int
	for _, face := range faces {
		for sheet := range k.table {
			out = append(out, k.lifted(face, sheet))
		}
	}
	return out
}

// lifted: the face above one whose first vertex is on a sheet.
func (k covering) lifted(face []int, sheet int) []int {
	out := make([]int, len(face))
	for i, v := range face {
		letter := k.letters[[2]int{face[0], v}]
		out[i] = k.places[v]*len(k.table) + step(k.table, sheet, letter)
	}
	return out
}

// step along a letter.
func step(table [][]int, row, letter int) int {
	switch {
	case letter > 0:
		return table[row][2*letter-2]
	case letter < 0:
		return table[row][-2*letter-1]
	}
	return row
}

// check that a table is one of a group.
func check(g group.Group, table [][]int) error {
	if err := checkCount(table); err != nil {
		return err
	}
	if err := checkRows(table, 2*g.Generators); err != nil {
		return err
	}
	for _, word := range g.Relators {
		for row := range table {
			if walk(table, row, word) != row {
				return api.ErrOrder
			}
		}
	}
	return nil
}

func walk(table [][]int, row int, word []int) int {
	for _, letter := range word {
		row = step(table, row, letter)
	}
	return row
}
