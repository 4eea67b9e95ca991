package cup

import "handlebody/cells"

// shape: a complex's faces by dimension, as texts of a byte for each vertex, and the number of each face among those of its dimension.
type shape struct {
	faces  [][]string
	number map[string]int
}

func open(c cells.Complex) (shape, error) {
	counts, err := cells.Vector(c)
	if err != nil {
		return shape{}, err
	}
	s := shape{number: map[string]int{}}
	for dim := range counts {
		faces, err := cells.Faces(c, dim)
		if err != nil {
			return shape{}, err
		}
		var texts []string
		for i, face := range faces {
			text := textOf(face)
			texts = append(texts, text)
			s.number[text] = i
		}
		s.faces = append(s.faces, texts)
	}
	return s, nil
}

// textOf a face: a vertex fits into a byte.
func textOf(face []int) string {
	var out []byte
	for _, v := range face {
		out = append(out, byte(v))
	}
	return string(out)
}

// count of the faces of a dimension from 0 on: none above the complex's own.
func (s shape) count(dim int) int {
	if dim >= len(s.faces) {
		return 0
	}
	return len(s.faces[dim])
}

// deltas: of each face of a dimension, alone. (A vertex has no parts: there are none below dimension 0.)
func (s shape) deltas(dim int) []row {
	if dim < 0 {
		return nil
	}
	out := make([]row, s.count(dim))
	for i := range out {
		out[i] = newRow(s.count(dim + 1))
	}
	for k := range s.count(dim + 1) {
		face := s.faces[dim+1][k]
		for i := range len(face) {
			out[s.number[face[:i]+face[i+1:]]].flip(k)
		}
	}
	return out
}

func (s shape) delta(dim int, f row) row {
	out := newRow(s.count(dim + 1))
	deltas := s.deltas(dim)
	for _, i := range f.told() {
		out.add(deltas[i])
	}
	return out
}

func (s shape) isCocycle(dim int, f row) bool { return s.delta(dim, f).isZero() }

// cup of two dimensions: what multiplies. The ends of the faces are looked up once.
func (s shape) cup(i, k int) func(f, g row) row {
	n := s.count(i + k)
	first, last := make([]int, n), make([]int, n)
	for x := range n {
		face := s.faces[i+k][x]
		first[x], last[x] = s.number[face[:i+1]], s.number[face[i:]]
	}
	return func(f, g row) row {
		out := newRow(n)
		for x := range n {
			if f.has(first[x]) && g.has(last[x]) {
				out.flip(x)
			}
		}
		return out
	}
}

// sorterOfClasses: what it leaves of a cocycle is 0 if the class is the sum of those of the cocycles ahead; of the first one, if its class is 0.
func (s shape) sorterOfClasses(dim int) func(row) row {
	sort := sorter()
	for _, r := range s.deltas(dim - 1) {
		sort(r)
	}
	return sort
}

// classes of a dimension: a cocycle for each one of a basis.
func (s shape) classes(dim int) []row {
	var out []row
	sort := s.sorterOfClasses(dim)
	for _, f := range s.cocycles(dim) {
		if !sort(f).isZero() {
			out = append(out, f)
		}
	}
	return out
}

// cocycles of a dimension: a basis. Each face's Delta is sorted out with the face itself behind it: where all of Delta is gone, the faces left are a cocycle.
func (s shape) cocycles(dim int) []row {
	var out []row
	over := s.count(dim + 1)
	sort := sorter()
	for i, r := range s.deltas(dim) {
		both := newRow(over + s.count(dim))
		for _, x := range r.told() {
			both.flip(x)
		}
		both.flip(over + i)
		left := sort(both)
		if left.first() < over {
			continue
		}
		f := newRow(s.count(dim))
		for _, x := range left.told() {
			f.flip(x - over)
		}
		out = append(out, f)
	}
	return out
}

// products: of how many dimensions is the space of sums of products of such classes.
func (s shape) products(i, k int, classes [][]row) int {
	sort, cup := s.sorterOfClasses(i+k), s.cup(i, k)
	n := 0
	for _, f := range classes[i] {
		for _, g := range classes[k] {
			if n == len(classes[i+k]) { // there can be no more
				return n
			}
			if !sort(cup(f, g)).isZero() {
				n++
			}
		}
	}
	return n
}
