package studio

import (
	"fmt"
	"slices"
	"strings"
	"sync"
	"sync/atomic"
	"testing"
	"time"

	"handlebody/api"
)

// manyShapes under names that are not made in their order.
func manyShapes(t *testing.T) *Studio {
	t.Helper()
	s := opened(t, "zz = sphere 1", "c = sphere 2", "torus = product zz zz", "plane = text "+plane, "e = text ", "f = point", "b = sphere 0")
	for i := range 20 {
		name := strings.Repeat(string(rune('a'+i)), 3)
		for _, line := range []string{"x = cone f", name + " = " + []string{"suspend torus", "suspend plane", "product plane b", "skeleton torus 1", "rim c"}[i%5]} {
			if err := s.Do(line); err != nil {
				t.Fatal(line, err)
			}
		}
	}
	return s
}

// TestEach says what Ask says, with any number of workers.
func TestEach(t *testing.T) {
	for _, question := range []string{"euler", "homology", "shape", "surface", "volume", "", " ", "euler ", " euler", "euler a", "a = cone", "drop", "Euler", "\n", "euler\n"} {
		s := manyShapes(t)
		var want []string
		answers := 0
		for _, name := range s.Names() {
			text, err := s.Ask(question + " " + name)
			if err != nil {
				text = "?"
			} else {
				answers++
			}
			want = append(want, text)
		}
		for workers := 1; workers <= api.Workers; workers++ {
			s := manyShapes(t)
			journal := s.Journal()
			got, err := s.Each(question, workers)
			if !slices.Equal(got, want) || err != nil {
				t.Errorf("%q, %d: %q, %v", question, workers, got, err)
			}
			if n := s.Asked(); n != answers || s.Journal() != journal {
				t.Errorf("%q, %d: %d, not %d", question, workers, n, answers)
			}
			again, err := s.Each(question, api.Workers+1-workers)
			if n := s.Asked(); !slices.Equal(again, want) || err != nil || n != 0 {
				t.Errorf("%q, %d: %q, %v, %d", question, workers, again, err, n)
			}
		}
	}
}

// TestEachInOrder of the names, of which some have an error, and some were asked ahead.
func TestEachInOrder(t *testing.T) {
	s := opened(t, "d = text "+plane, "b = point", "c = sphere 2", "a = ball 2", "ba = text ")
	if text, err := s.Ask("surface c"); text != "orientable 0 0" || err != nil {
		t.Error(text, err)
	}
	for range 2 {
		if got, err := s.Each("surface", 4); fmt.Sprintf("%q", got) != `["orientable 0 1" "?" "?" "orientable 0 0" "plain 1 0"]` || err != nil {
			t.Error(got, err)
		}
	}
	if n := s.Asked(); n != 3 {
		t.Error(n)
	}
	s.Do("c = point")
	if got, err := s.Each("surface", 1); fmt.Sprintf("%q", got) != `["orientable 0 1" "?" "?" "?" "plain 1 0"]` || err != nil {
		t.Error(got, err)
	}
	if text, err := s.Ask("surface d"); text != "plain 1 0" || err != nil || s.Asked() != 0 {
		t.Error(text, err)
	}
	if got, err := s.Each("homology", 2); fmt.Sprintf("%q", got) != `["Z^1, 0, 0" "Z^1" "" "Z^1" "Z^1, Z/2, 0"]` || err != nil {
		t.Error(got, err)
	}
}

// TestWorkers of P163.
func TestWorkers(t *testing.T) {
	s := opened(t, "a = point")
	for _, workers := range []int{0, -1, api.Workers + 1, 1 << 40, -1 << 63} {
		for _, question := range []string{"euler", "volume"} {
			if got, err := s.Each(question, workers); len(got) > 0 || err != api.ErrShape {
				t.Error(workers, got, err)
			}
		}
	}
	if n := s.Asked(); n != 0 {
		t.Error(n)
	}
	for _, workers := range []int{1, api.Workers} {
		if got, err := s.Each("euler", workers); fmt.Sprint(got) != "[1]" || err != nil {
			t.Error(workers, got, err)
		}
		if got, err := New().Each("euler", workers); len(got) > 0 || err != nil {
			t.Error(workers, got, err)
		}
	}
}

// TestSideBySide: as many at once as there are workers, no more, each name once, and none any more when all is done.
func TestSideBySide(t *testing.T) {
	for workers := 1; workers <= api.Workers; workers++ {
		var names []string
		for i := range 3 * workers {
			names = append(names, fmt.Sprint(i))
		}
		var here, most atomic.Int64
		var full sync.WaitGroup
		full.Add(workers)
		var first atomic.Int64
		var got []string
		sideBySide(names, workers, func(name string) answer {
			n := here.Add(1)
			for old := most.Load(); n > old && !most.CompareAndSwap(old, n); old = most.Load() {
			}
			if first.Add(1) <= int64(workers) { // these wait for each other
				full.Done()
				full.Wait()
			}
			time.Sleep(time.Millisecond)
			here.Add(-1)
			return answer{text: name}
		}, func(a answer) { got = append(got, a.text) })
		slices.Sort(got)
		slices.Sort(names)
		if !slices.Equal(got, names) || most.Load() != int64(workers) || here.Load() != 0 {
			t.Error(workers, got, most.Load(), here.Load())
		}
	}
}

// TestCallsSideBySide: who calls a studio while another one does waits; nothing is lost.
func TestCallsSideBySide(t *testing.T) {
	s := opened(t, "a = sphere 1", "b = point")
	var all sync.WaitGroup
	for i := range 8 {
		all.Add(1)
		go func() {
			defer all.Done()
			name := string(rune('c' + i))
			for k := range 20 {
				for _, line := range []string{name + " = cone a", name + " = suspend " + name} {
					if err := s.Do(line); err != nil {
						t.Error(line, err)
					}
				}
				if text, err := s.Ask("euler " + name); text != "1" || err != nil {
					t.Error(name, text, err)
				}
				if l, err := s.Each("homology", 1+k%api.Workers); len(l) < 3 || err != nil {
					t.Error(l, err)
				}
				if _, err := s.Get(name); err != nil {
					t.Error(err)
				}
				s.Names()
				s.Journal()
			}
		}()
	}
	all.Wait()
	if n := strings.Count(s.Journal(), "\n"); n != 322 {
		t.Error(n)
	}
	if n := s.Asked(); n < 8 {
		t.Error(n)
	}
}
