package studio

import (
	"strings"

	"handlebody/api"
)

// words that a line has where its form has kinds of words.
type words struct {
	names  []string
	number int
	text   string
}

// match a line with a form; false: it has not this form.
func match(form, line string) (words, bool) {
	kinds := strings.Split(form, " ")
	parts := strings.SplitN(line, " ", len(kinds)) // blanks that are too many are in the last part, where a text alone may have them
	if len(parts) != len(kinds) {
		return words{}, false
	}
	var out words
	for i, kind := range kinds {
		if !out.take(kind, parts[i]) {
			return words{}, false
		}
	}
	return out, true
}

// take a word of a kind: a name, a number, a text, or that very word; false: it is none.
func (w *words) take(kind, word string) bool {
	switch kind {
	case "NAME", "A", "B":
		w.names = append(w.names, word)
		return isName(word)
	case "N", "V":
		n, ok := number(word)
		w.number = n
		return ok
	case "FACETS":
		w.text = word
		return true
	}
	return word == kind
}

func isName(word string) bool {
	if len(word) < 1 || len(word) > api.MaxName {
		return false
	}
	for i := range len(word) {
		if word[i] < 'a' || word[i] > 'z' {
			return false
		}
	}
	return true
}

// number of one or two digits; false: it is none.
func number(word string) (int, bool) {
	if len(word) < 1 || len(word) > 2 {
		return 0, false
	}
	n := 0
	for i := range len(word) {
		if word[i] < '0' || word[i] > '9' {
			return 0, false
		}
		n = 10*n + int(word[i]-'0')
	}
	return n, true
}
