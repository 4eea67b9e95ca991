package label

import (
	"math/rand"
	"slices"
	"testing"

	"handlebody/api"
)

// triangle: a divided one, put together otherwise than by the program: small triangles are three points of which each two are neighbours.
type triangle struct {
	n      int
	points [][3]int
	small  [][3]int
}

func plainTriangle(n int) triangle {
	t := triangle{n: n}
	for i := 0; i <= n; i++ {
		for j := 0; j <= n; j++ {
			for k := 0; k <= n; k++ {
				if i+j+k == n {
					t.points = append(t.points, [3]int{i, j, k})
				}
			}
		}
	}
	for a := range t.points {
		for b := a + 1; b < len(t.points); b++ {
			for c := b + 1; c < len(t.points); c++ {
				if t.near(a, b) && t.near(a, c) && t.near(b, c) {
					t.small = append(t.small, [3]int{a, b, c})
				}
			}
		}
	}
	return t
}

// near: one coordinate is one more, another one less.
func (t triangle) near(a, b int) bool {
	d := []int{}
	for i := range 3 {
		d = append(d, t.points[a][i]-t.points[b][i])
	}
	slices.Sort(d)
	return slices.Equal(d, []int{-1, 0, 1})
}

// allowed labels of a point, said one by one.
func allowed(p [3]int) []int {
	var out []int
	if p[0] > 0 {
		out = append(out, 0)
	}
	if p[1] > 0 {
		out = append(out, 1)
	}
	if p[2] > 0 {
		out = append(out, 2)
	}
	return out
}

func (t triangle) full(labels []int) []int {
	var out []int
	for at, s := range t.small {
		l := []int{labels[s[0]], labels[s[1]], labels[s[2]]}
		slices.Sort(l)
		if slices.Equal(l, []int{0, 1, 2}) {
			out = append(out, at)
		}
	}
	return out
}

// doors: by their points, the small triangles that have them.
func (t triangle) doors(labels []int) map[[2]int][]int {
	out := map[[2]int][]int{}
	for at, s := range t.small {
		for _, d := range [][2]int{{s[0], s[1]}, {s[1], s[2]}, {s[0], s[2]}} {
			l := [2]int{labels[d[0]], labels[d[1]]}
			if l == [2]int{0, 1} || l == [2]int{1, 0} {
				out[d] = append(out[d], at)
			}
		}
	}
	return out
}

// rimDoors on the side k = 0, the nearest to (n, 0, 0) first.
func (t triangle) rimDoors(doors map[[2]int][]int) [][2]int {
	var out [][2]int
	for d := range doors {
		if t.points[d[0]][2] == 0 && t.points[d[1]][2] == 0 {
			out = append(out, d)
		}
	}
	slices.SortFunc(out, func(a, b [2]int) int { return t.points[b[1]][0] - t.points[a[1]][0] })
	return out
}

// joined: all small triangles that are to be come to from one, by doors, the nearest first.
func joined(doors map[[2]int][]int, from int) []int {
	out := []int{from}
	for i := 0; i < len(out); i++ {
		for _, l := range doors {
			if len(l) == 2 && slices.Contains(l, out[i]) {
				if next := l[0] + l[1] - out[i]; !slices.Contains(out, next) {
					out = append(out, next)
				}
			}
		}
	}
	return out
}

// walk: a door on the side leads out again if what is joined to its triangle has a second door there.
func (t triangle) walk(labels []int) []int {
	doors := t.doors(labels)
	rim := t.rimDoors(doors)
	for _, d := range rim {
		way := joined(doors, doors[d][0])
		out := 0
		for _, e := range rim {
			if slices.Contains(way, doors[e][0]) {
				out++
			}
		}
		if out == 1 {
			return way
		}
	}
	return nil
}

// holds labels against the plain versions and against what the document says of them.
func (t triangle) holds(test *testing.T, labels []int) {
	test.Helper()
	full, err := Full(t.n, labels)
	if err != nil || len(full)%2 == 0 || !slices.Equal(full, t.full(labels)) {
		test.Fatal(t.n, labels, full, err)
	}
	way, err := Walk(t.n, labels)
	if err != nil || !slices.Equal(way, t.walk(labels)) {
		test.Fatal(t.n, labels, way, t.walk(labels), err)
	}
	if !slices.Contains(full, way[len(way)-1]) || slices.ContainsFunc(way[:len(way)-1], func(at int) bool { return slices.Contains(full, at) }) {
		test.Fatal(t.n, labels, way, full)
	}
}

// TestAllLabels of the smaller triangles: each choice that there is.
func TestAllLabels(test *testing.T) {
	for n := 1; n <= 3; n++ {
		t := plainTriangle(n)
		labels := make([]int, len(t.points))
		count := 0
		var choose func(at int)
		choose = func(at int) {
			if at == len(labels) {
				t.holds(test, labels)
				count++
				return
			}
			for _, l := range allowed(t.points[at]) {
				labels[at] = l
				choose(at + 1)
			}
		}
		choose(0)
		if want := []int{1, 8, 192}[n-1]; count != want {
			test.Error(n, count, want)
		}
	}
}

// TestManyLabels of all triangles: the rarer a 2, the longer the walk, and the more doors lead out again.
func TestManyLabels(test *testing.T) {
	r := rand.New(rand.NewSource(112))
	longest, out := 0, 0
	for n := 2; n <= api.MaxParts; n++ {
		t := plainTriangle(n)
		for _, rare := range []int{1, 4, 30} {
			for range 12 {
				var labels []int
				for _, p := range t.points {
					l := allowed(p)
					if len(l) > 1 && l[len(l)-1] == 2 && r.Intn(rare) > 0 {
						l = l[:len(l)-1]
					}
					labels = append(labels, l[r.Intn(len(l))])
				}
				t.holds(test, labels)
				way, _ := Walk(n, labels)
				longest = max(longest, len(way))
				doors := t.doors(labels)
				if nearest := t.rimDoors(doors)[0]; doors[nearest][0] != way[0] {
					out++
				}
			}
		}
	}
	if longest < 20 || out < 20 {
		test.Error("too few long walks, or doors that lead out", longest, out)
	}
}

// TestOneTwo: where one corner alone has a 2, all walks end there.
func TestOneTwo(test *testing.T) {
	for n := 1; n <= api.MaxParts; n++ {
		t := plainTriangle(n)
		labels := first(n)
		for at, p := range t.points {
			if p[0] == 0 && p[1] > 0 {
				labels[at] = 1
			}
		}
		t.holds(test, labels)
		if full, _ := Full(n, labels); !slices.Equal(full, []int{0}) {
			test.Error(n, full)
		}
		if way, _ := Walk(n, labels); len(way) != 2*n-1 { // along the side i = 0
			test.Error(n, way)
		}
	}
}
