package studio

import (
	"maps"
	"slices"

	"handlebody/api"
	"handlebody/cells"
)

// shape: what a name stands for, if anything.
type shape struct {
	there   bool
	complex cells.Complex
}

// step: a command that was done, and what its name stood for before.
type step struct {
	line, name string
	before     shape
}

// outcome of a command: what its name is to stand for.
func (s *Studio) outcome(c command) (shape, error) {
	var of []cells.Complex
	for _, name := range c.needs {
		if !s.shapes[name].there {
			return shape{}, api.ErrName
		}
		of = append(of, s.shapes[name].complex)
	}
	if c.build == nil {
		return shape{}, nil
	}
	made, err := c.build(of, c.words)
	if err != nil {
		return shape{}, err
	}
	return shape{there: true, complex: made}, nil
}

// undo the last step.
func (s *Studio) undo() error {
	if len(s.steps) == 0 {
		return api.ErrNone
	}
	last := s.steps[len(s.steps)-1]
	s.steps = slices.Delete(s.steps, len(s.steps)-1, len(s.steps))
	s.set(last.name, last.before)
	return nil
}

// set what a name stands for. What was told of another complex of that name is forgotten for good.
func (s *Studio) set(name string, next shape) {
	if !same(s.shapes[name], next) {
		maps.DeleteFunc(s.told, func(_ string, a answer) bool { return a.name == name })
	}
	if next.there {
		s.shapes[name] = next
	} else {
		delete(s.shapes, name)
	}
}

// same shapes: a complex is told in one way alone.
func same(a, b shape) bool {
	return a.there == b.there && slices.EqualFunc(a.complex.Facets, b.complex.Facets, slices.Equal[[]int])
}

// copied complex, in memory of its own.
func copied(c cells.Complex) cells.Complex {
	var out cells.Complex
	for _, f := range c.Facets {
		out.Facets = append(out.Facets, slices.Clone(f))
	}
	return out
}
