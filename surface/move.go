package surface

import (
	"slices"

	"handlebody/api"
)

// moves by their kinds. Each is handed valid words, which it leaves as they are.
func moves() map[string]func(w Words, m Move) (Words, error) {
	return map[string]func(w Words, m Move) (Words, error){
		"turn":  turnWord,
		"flip":  flipWord,
		"name":  nameLetter,
		"arrow": turnArrow,
		"cut":   cutWord,
		"glue":  glueWords,
		"fold":  foldLetters,
	}
}

func turnWord(w Words, m Move) (Words, error) {
	if !hasLetter(w, m) {
		return nil, api.ErrOrder
	}
	out := copied(w)
	out[m.Word] = slices.Concat(w[m.Word][m.At:], w[m.Word][:m.At])
	return out, nil
}

func flipWord(w Words, m Move) (Words, error) {
	if !hasWord(w, m.Word) {
		return nil, api.ErrOrder
	}
	out := copied(w)
	slices.Reverse(out[m.Word])
	for i := range out[m.Word] {
		out[m.Word][i] *= -1
	}
	return out, nil
}

func nameLetter(w Words, m Move) (Words, error) {
	if !hasLetter(w, m) || !isFree(w, m.Letter) {
		return nil, api.ErrOrder
	}
	old := w[m.Word][m.At]
	sign := old / nameOf(old)
	return anew(w, func(letter int) int {
		switch letter {
		case old:
			return sign * m.Letter
		case -old:
			return -sign * m.Letter
		}
		return letter
	}), nil
}

func turnArrow(w Words, m Move) (Words, error) {
	if !hasLetter(w, m) {
		return nil, api.ErrOrder
	}
	old := nameOf(w[m.Word][m.At])
	return anew(w, func(letter int) int {
		if nameOf(letter) == old {
			return -letter
		}
		return letter
	}), nil
}

func cutWord(w Words, m Move) (Words, error) {
	if !hasLetter(w, m) || m.At == 0 || !isFree(w, m.Letter) {
		return nil, api.ErrOrder
	}
	// No bound is asked of what comes: beside a free name stand MaxLetter - 1 others, each twice at most, and MaxWord is twice MaxLetter: so there is room for two letters more.
	first := append(slices.Clone(w[m.Word][:m.At]), m.Letter)
	second := append([]int{-m.Letter}, w[m.Word][m.At:]...)
	return slices.Replace(copied(w), m.Word, m.Word+1, first, second), nil
}

func glueWords(w Words, m Move) (Words, error) {
	if !hasWord(w, m.At) || !hasWord(w, m.To) || m.At == m.To {
		return nil, api.ErrOrder
	}
	first, second := w[m.At], w[m.To]
	last := len(first) - 1
	if last+len(second) < 2 || first[last] != -second[0] {
		return nil, api.ErrOrder
	}
	out := copied(w)
	out[min(m.At, m.To)] = slices.Concat(first[:last], second[1:])
	behind := max(m.At, m.To)
	return slices.Delete(out, behind, behind+1), nil
}

func foldLetters(w Words, m Move) (Words, error) {
	if !hasLetter(w, m) {
		return nil, api.ErrOrder
	}
	word := w[m.Word]
	if len(word) == 2 || m.At == len(word)-1 || word[m.At] != -word[m.At+1] {
		return nil, api.ErrOrder
	}
	out := copied(w)
	out[m.Word] = slices.Delete(out[m.Word], m.At, m.At+2)
	return out, nil
}

func hasWord(w Words, i int) bool { return 0 <= i && i < len(w) }

// hasLetter: the move's word is there, and has a letter At.
func hasLetter(w Words, m Move) bool {
	return hasWord(w, m.Word) && 0 <= m.At && m.At < len(w[m.Word])
}

// isFree: a letter may have that name, and none has it.
func isFree(w Words, n int) bool {
	if !isName(n) {
		return false
	}
	for _, word := range w {
		for _, letter := range word {
			if nameOf(letter) == n {
				return false
			}
		}
	}
	return true
}

// anew: the words, each letter given anew.
func anew(w Words, give func(letter int) int) Words {
	out := copied(w)
	for _, word := range out {
		for i, letter := range word {
			word[i] = give(letter)
		}
	}
	return out
}

func copied(w Words) Words {
	out := make(Words, len(w))
	for i, word := range w {
		out[i] = slices.Clone(word)
	}
	return out
}
