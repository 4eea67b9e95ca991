package studio

import (
	"sync"

	"handlebody/api"
)

// answer to a line, of the complex of a name.
type answer struct {
	line, name, text string
	err              error
}

// workOut the answer to a line. What the studio has is only read, so that many may do so at once.
func (s *Studio) workOut(line string) answer {
	for _, q := range questions() {
		w, ok := match(q.form, line)
		if !ok {
			continue
		}
		of := s.shapes[w.names[0]]
		if !of.there {
			return answer{err: api.ErrName}
		}
		text, err := q.tell(of.complex)
		return answer{line: line, name: w.names[0], text: text, err: err}
	}
	return answer{err: api.ErrText}
}

func (s *Studio) isTold(line string) bool {
	_, ok := s.told[line]
	return ok
}

// keep an answer, if it is one.
func (s *Studio) keep(a answer) {
	if a.err != nil {
		return
	}
	s.first.Do(func() { s.told = map[string]answer{} })
	s.told[a.line] = a
	s.worked++
}

// sideBySide works out the answer of each name: workers take names and send answers; who called does what can be done: hands out a name, or takes an answer.
func sideBySide(names []string, workers int, work func(name string) answer, take func(a answer)) {
	todo, done := make(chan string), make(chan answer)
	var all sync.WaitGroup
	for range workers {
		all.Add(1)
		go func() {
			defer all.Done()
			for name := range todo {
				done <- work(name)
			}
		}()
	}
	for out := 0; out > 0 || len(names) > 0; {
		var hand chan string // nil, which nobody takes from, when no name is left
		next := ""
		if len(names) > 0 {
			hand, next = todo, names[0]
		}
		select {
		case hand <- next:
			names = names[1:]
			out++
		case a := <-done:
			take(a)
			out--
		}
	}
	close(todo)
	all.Wait()
}
