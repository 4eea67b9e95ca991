package persist

import (
	"sync"
	"sync/atomic"
)

// never: by which face a class dies that does not.
const never = -1

// pairs of all dimensions. Each dimension's deaths are a slot of their own, so that it is all one which worker fills it.
func (s *story) pairs(workers int) [][2]int {
	deaths := make([][][2]int, len(s.coming))
	sideBySide(workers, len(deaths), func(dim int) { deaths[dim] = s.deaths(dim) })
	end, kills := make([]int, len(s.parts)), make([]bool, len(s.parts))
	for i := range end {
		end[i] = never
	}
	for _, list := range deaths {
		for _, d := range list {
			end[d[0]], kills[d[1]] = d[1], true
		}
	}
	var out [][2]int
	for i := range end {
		if !kills[i] {
			out = append(out, [2]int{i, end[i]})
		}
	}
	return out
}

// sideBySide does something with each number below n: workers take the next one until there is none.
func sideBySide(workers, n int, do func(i int)) {
	var next atomic.Int64
	take := func() int { return int(next.Add(1)) - 1 }
	var all sync.WaitGroup
	for range workers {
		all.Add(1)
		go func() {
			defer all.Done()
			for i := take(); i < n; i = take() {
				do(i)
			}
		}()
	}
	all.Wait()
}

// deaths that the faces of a dimension give: born by, died by.
func (s *story) deaths(dim int) [][2]int {
	if dim == 0 {
		return nil
	}
	var out [][2]int
	below := s.coming[dim-1]
	byLast := make([]column, len(below))
	for _, face := range s.coming[dim] {
		c := newColumn(len(below))
		for _, part := range s.parts[face] {
			c.flip(s.place[part])
		}
		last := c.last()
		for last >= 0 && byLast[last] != nil {
			c.add(byLast[last])
			last = c.last()
		}
		if last >= 0 {
			byLast[last] = c
			out = append(out, [2]int{below[last], face})
		}
	}
	return out
}
