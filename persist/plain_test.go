package persist

import (
	"cmp"
	"errors"
	"fmt"
	"math/rand"
	"slices"
	"testing"

	"handlebody/api"
	"handlebody/cells"
)

// closed: the sets and all their parts, each once, by dimension and in P20's order.
func closed(sets ...[]int) [][]int {
	all := map[string][]int{}
	for _, set := range sets {
		for bits := 1; bits < 1<<len(set); bits++ {
			var part []int
			for i, v := range set {
				if bits>>i&1 == 1 {
					part = append(part, v)
				}
			}
			slices.Sort(part)
			all[fmt.Sprint(part)] = part
		}
	}
	var out [][]int
	for _, part := range all {
		out = append(out, part)
	}
	slices.SortFunc(out, func(a, b []int) int { return cmp.Or(len(a)-len(b), slices.Compare(a, b)) })
	return out
}

// isPart: has a face all vertices of another one?
func isPart(part, face []int) bool {
	for _, v := range part {
		if !slices.Contains(face, v) {
			return false
		}
	}
	return true
}

// delayed: times that are at least those of all parts. The faces are by dimension.
func delayed(faces [][]int, times []int) []int {
	out := slices.Clone(times)
	for i, face := range faces {
		for k, part := range faces[:i] {
			if isPart(part, face) {
				out[i] = max(out[i], out[k])
			}
		}
	}
	return out
}

// someTimes below a bound: a low one makes many of them the same.
func someTimes(r *rand.Rand, faces [][]int, bound int) []int {
	times := make([]int, len(faces))
	for i := range times {
		times[i] = r.Intn(bound)
	}
	return delayed(faces, times)
}

// someFaces of a complex: sets of at most size of the first vertices; no more than most.
func someFaces(r *rand.Rand, vertices, size, sets, most int) [][]int {
	var list, out [][]int
	for range sets {
		list = append(list, r.Perm(vertices)[:1+r.Intn(size)])
		next := closed(list...)
		if len(next) > most {
			break
		}
		out = next
	}
	return out
}

// mixed: the same steps, told in another order; from: where each stood.
func mixed(r *rand.Rand, f Steps) (out Steps, from []int) {
	from = r.Perm(len(f.Faces))
	for _, i := range from {
		out.Faces = append(out.Faces, f.Faces[i])
		out.Times = append(out.Times, f.Times[i])
	}
	return out, from
}

// skeleton: nearly all sets of a size, of the first vertices, and all their parts.
func skeleton(r *rand.Rand, vertices, size int) [][]int {
	var sets [][]int
	for bits := range 1 << vertices {
		var set []int
		for v := range vertices {
			if bits>>v&1 == 1 {
				set = append(set, v)
			}
		}
		if len(set) == size && r.Intn(10) > 0 {
			sets = append(sets, set)
		}
	}
	return closed(sets...)
}

// someSteps of many kinds.
func someSteps(r *rand.Rand) Steps {
	n := 3 + r.Intn(5)
	var faces [][]int
	switch r.Intn(3) {
	case 0:
		faces = someFaces(r, n+3, 1+r.Intn(2), 1+r.Intn(16), 80)
	case 1:
		faces = someFaces(r, n, n, 1+r.Intn(6), 130)
	case 2:
		faces = skeleton(r, n, 1+r.Intn(n))
	}
	f, _ := mixed(r, Steps{Faces: faces, Times: someTimes(r, faces, []int{1, 2, 4, 30, 1000001}[r.Intn(5)])})
	return f
}

func copied(f Steps) Steps {
	out := Steps{Times: slices.Clone(f.Times)}
	for _, face := range f.Faces {
		out.Faces = append(out.Faces, slices.Clone(face))
	}
	return out
}

func same(a, b Steps) bool {
	return slices.Equal(a.Times, b.Times) && slices.EqualFunc(a.Faces, b.Faces, slices.Equal[[]int])
}

// comesAhead: P131's order.
func comesAhead(f Steps, a, b int) int {
	return cmp.Or(f.Times[a]-f.Times[b], len(f.Faces[a])-len(f.Faces[b]), slices.Compare(f.Faces[a], f.Faces[b]))
}

// plainPairs: P131's reduction word for word, of all dimensions in one, columns as sets of places in the order of all.
func plainPairs(f Steps) [][2]int {
	var order []int
	for i := range f.Faces {
		order = append(order, i)
	}
	slices.SortFunc(order, func(a, b int) int { return comesAhead(f, a, b) })
	columns := make([]map[int]bool, len(order))
	last := make([]int, len(order))
	end := map[int]int{}
	for col, i := range order {
		columns[col] = map[int]bool{}
		for row, k := range order {
			if len(f.Faces[k]) == len(f.Faces[i])-1 && isPart(f.Faces[k], f.Faces[i]) {
				columns[col][row] = true
			}
		}
		for ahead := 0; ahead < col; {
			last[col] = greatest(columns[col])
			if last[col] < 0 || last[ahead] != last[col] {
				ahead++
				continue
			}
			for row := range columns[ahead] {
				if columns[col][row] {
					delete(columns[col], row)
				} else {
					columns[col][row] = true
				}
			}
			ahead = 0
		}
		last[col] = greatest(columns[col])
		if last[col] < 0 {
			end[i] = -1
		} else {
			end[order[last[col]]] = i
		}
	}
	var out [][2]int
	for i := range f.Faces {
		if k, born := end[i]; born {
			out = append(out, [2]int{i, k})
		}
	}
	return out
}

func greatest(set map[int]bool) int {
	out := -1
	for i := range set {
		out = max(out, i)
	}
	return out
}

// plainBars, sorted by a choice of the least one again and again.
func plainBars(f Steps, pairs [][2]int) []api.Bar {
	var l []api.Bar
	for _, p := range pairs {
		b := api.Bar{Dim: len(f.Faces[p[0]]) - 1, Birth: f.Times[p[0]], Death: -1}
		if p[1] >= 0 {
			b.Death = f.Times[p[1]]
		}
		if p[1] < 0 || b.Birth != b.Death {
			l = append(l, b)
		}
	}
	var out []api.Bar
	for len(l) > 0 {
		least := 0
		for i := range l {
			if standsAhead(l[i], l[least]) {
				least = i
			}
		}
		out = append(out, l[least])
		l = slices.Delete(l, least, least+1)
	}
	return out
}

func standsAhead(a, b api.Bar) bool {
	if a.Dim != b.Dim {
		return a.Dim < b.Dim
	}
	if a.Birth != b.Birth {
		return a.Birth < b.Birth
	}
	if b.Death == -1 {
		return a.Death != -1
	}
	return a.Death != -1 && a.Death < b.Death
}

// upTo a time: the complex that is there.
func upTo(t *testing.T, f Steps, at int) cells.Complex {
	t.Helper()
	var there [][]int
	for i, face := range f.Faces {
		if f.Times[i] <= at {
			there = append(there, face)
		}
	}
	c, err := cells.Make(there)
	if err != nil {
		t.Fatal(f, at, err)
	}
	return c
}

// bare: the very error, not one that wraps it.
func bare(t *testing.T, got, want error, what ...any) {
	t.Helper()
	var f *api.Fault
	if got != want || errors.As(got, &f) {
		t.Error(append([]any{"got", got, "want", want, "of"}, what...)...)
	}
}
