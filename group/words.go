package group

import (
	"slices"

	"handlebody/api"
)

// check words of a group with so many generators: relators, or those of a subgroup.
func check(words [][]int, generators int) error {
	if len(words) > api.MaxRelator || lettersOf(words) > api.MaxRelator {
		return api.ErrBound
	}
	for _, word := range words {
		for _, letter := range word {
			if letter == 0 || letter < -generators || letter > generators {
				return api.ErrShape
			}
		}
	}
	return nil
}

func lettersOf(words [][]int) int {
	n := 0
	for _, word := range words {
		n += len(word)
	}
	return n
}

// areOpposite: 0 alone is its own opposite, though the least int is the same as itself negated.
func areOpposite(a, b int) bool { return a == -b && (a != b || a == 0) }

func opposite(word []int) []int {
	var out []int
	for _, letter := range slices.Backward(word) {
		out = append(out, -letter)
	}
	return out
}

// solved: the word that a generator is, by a relator in which it stands just once; false: it does not.
func solved(relator []int, generator int) ([]int, bool) {
	is := func(letter int) bool { return letter == generator || letter == -generator }
	at := slices.IndexFunc(relator, is)
	if at < 0 || slices.ContainsFunc(relator[at+1:], is) {
		return nil, false
	}
	around := slices.Concat(relator[at+1:], relator[:at])
	if relator[at] == generator {
		return opposite(around), true
	}
	return around, true
}

// replaced: a word with a generator's meaning in its place, and the greater ones one less.
func replaced(word []int, generator int, meaning []int) []int {
	backward := opposite(meaning)
	var out []int
	for _, letter := range word {
		switch letter {
		case generator:
			out = append(out, meaning...)
		case -generator:
			out = append(out, backward...)
		default:
			out = append(out, letter)
		}
	}
	for i, letter := range out {
		out[i] = lessened(letter, generator)
	}
	return out
}

// lessened: one less in size, if it is above a generator.
func lessened(letter, generator int) int {
	switch {
	case letter > generator:
		return letter - 1
	case letter < -generator:
		return letter + 1
	}
	return letter
}

// counts: how often each generator is in each relator, backward ones less; rows that are the same stand once. (So there are at most 213, which smith.FactorsGreat takes: no letters make one row, one letter makes 24; the others have two letters or more.)
func counts(relators [][]int, generators int) [][]int {
	var rows [][]int
	for _, word := range relators {
		row := make([]int, generators)
		for _, letter := range word {
			if letter > 0 {
				row[letter-1]++
			} else {
				row[-letter-1]--
			}
		}
		rows = append(rows, row)
	}
	slices.SortFunc(rows, slices.Compare[[]int])
	return slices.CompactFunc(rows, slices.Equal[[]int])
}
