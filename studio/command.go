package studio

import (
	"slices"

	"handlebody/cells"
	"handlebody/manifold"
)

// builder makes a complex of those that are named, and of what else a line says.
type builder func(of []cells.Complex, w words) (cells.Complex, error)

// way of making a complex.
type way struct {
	form  string
	build builder
}

func ways() []way {
	return []way{
		{"NAME = text FACETS", func(_ []cells.Complex, w words) (cells.Complex, error) { return cells.Read(w.text) }},
		{"NAME = point", func(_ []cells.Complex, w words) (cells.Complex, error) { return ball(0) }},
		{"NAME = sphere N", func(_ []cells.Complex, w words) (cells.Complex, error) { return sphere(w.number) }},
		{"NAME = ball N", func(_ []cells.Complex, w words) (cells.Complex, error) { return ball(w.number) }},
		{"NAME = join A B", ofTwo(cells.Join)},
		{"NAME = product A B", ofTwo(cells.Product)},
		{"NAME = union A B", ofTwo(cells.Union)},
		{"NAME = meet A B", ofTwo(cells.Meet)},
		{"NAME = cone A", ofOne(cells.Cone)},
		{"NAME = suspend A", ofOne(cells.Suspend)},
		{"NAME = skeleton A N", func(of []cells.Complex, w words) (cells.Complex, error) { return cells.Skeleton(of[0], w.number) }},
		{"NAME = link A V", func(of []cells.Complex, w words) (cells.Complex, error) { return cells.Link(of[0], []int{w.number}) }},
		{"NAME = rim A", ofOne(manifold.Rim)},
	}
}

func ofOne(f func(c cells.Complex) (cells.Complex, error)) builder {
	return func(of []cells.Complex, _ words) (cells.Complex, error) { return f(of[0]) }
}

func ofTwo(f func(a, b cells.Complex) (cells.Complex, error)) builder {
	return func(of []cells.Complex, _ words) (cells.Complex, error) { return f(of[0], of[1]) }
}

// upTo a vertex: all from 0 on.
func upTo(last int) []int {
	out := make([]int, last+1)
	for v := range out {
		out[v] = v
	}
	return out
}

func ball(dim int) (cells.Complex, error) { return cells.Make([][]int{upTo(dim)}) }

func sphere(dim int) (cells.Complex, error) {
	var facets [][]int
	for without := range dim + 2 {
		facets = append(facets, slices.Delete(upTo(dim+1), without, without+1))
	}
	return cells.Make(facets)
}

// command that gives a name another complex, or none.
type command struct {
	name  string
	needs []string // names that must be there
	words words
	build builder // nil: the name is dropped
}

// read a line; false: it is no command.
func read(line string) (command, bool) {
	if w, ok := match("drop NAME", line); ok {
		return command{name: w.names[0], needs: w.names}, true
	}
	for _, y := range ways() {
		if w, ok := match(y.form, line); ok {
			return command{name: w.names[0], needs: w.names[1:], words: w, build: y.build}, true
		}
	}
	return command{}, false
}
