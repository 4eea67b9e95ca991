package cells

import (
	"strconv"
	"strings"

	"handlebody/api"
)

// Text of a complex.
func Text(c Complex) (string, error) {
	if err := Valid(c); err != nil {
		return "", err
	}
	facets := make([]string, len(c.Facets))
	for i, facet := range c.Facets {
		numbers := make([]string, len(facet))
		for k, v := range facet {
			numbers[k] = strconv.Itoa(v)
		}
		facets[i] = strings.Join(numbers, " ")
	}
	return strings.Join(facets, "; "), nil
}

// Read a complex.
func Read(text string) (Complex, error) {
	if len(text) > api.MaxText {
		return Complex{}, &api.Fault{Err: api.ErrBound}
	}
	var sets [][]int
	at := pastBlanks(text, 0)
	if at == len(text) {
		return Complex{}, nil
	}
next:
	set, at := readSet(text, at)
	if len(set) == 0 || at < len(text) && text[at] != ';' {
		return Complex{}, &api.Fault{At: at, Err: api.ErrText}
	}
	sets = append(sets, set)
	if at < len(text) {
		at++
		goto next
	}
	c, err := Make(sets)
	if err != nil {
		return Complex{}, &api.Fault{Err: err}
	}
	return c, nil
}

// readSet reads numbers, with the blanks around them, from a place on, up to the first byte that is neither.
func readSet(text string, at int) (set []int, end int) {
	at = pastBlanks(text, at)
	for {
		number, end := readNumber(text, at)
		if end == at {
			return set, at
		}
		set = append(set, number)
		at = pastBlanks(text, end)
		if at == end {
			return set, at
		}
	}
}

// readNumber reads two digits at most.
func readNumber(text string, at int) (number, end int) {
	for end = at; end < len(text) && end < at+2 && text[end] >= '0' && text[end] <= '9'; end++ {
		number = 10*number + int(text[end]-'0')
	}
	return number, end
}

func pastBlanks(text string, at int) int {
	for at < len(text) && text[at] == ' ' {
		at++
	}
	return at
}
