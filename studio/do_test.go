package studio

import (
	"fmt"
	"math/rand"
	"slices"
	"strings"
	"testing"

	"handlebody/api"
)

// someText of facets, at times none that can be read.
func someText(r *rand.Rand) string {
	return []string{"", "  ", "0", "0 1", "0 1; 1 2; 0 2", " 2 1;0 2 ;1 0", "0; 1", "5;6", "0 1 2", "0 1 2 3 4 5 6", plane, "0 1 2; 1 2 3; 2 3 4; 0 3 4; 0 1 4", "0 1 2; 3 4 5", "0 1; 1 2", "0 1; 0 2; 0 3", "0 1; 2", "98 99", "0 0", "0 x", "0;", "0 1 2 3 4 5 6 7", "0\n", "100"}[r.Intn(23)]
}

// someCommand of few names, which need not be there.
func someCommand(r *rand.Rand) string {
	name := func() string { return string(rune('a' + r.Intn(4))) }
	n := r.Intn(5)
	switch r.Intn(18) {
	case 0, 1, 2:
		return name() + " = text " + someText(r)
	case 3:
		return name() + " = point"
	case 4:
		return fmt.Sprint(name(), " = sphere ", n)
	case 5:
		return fmt.Sprint(name(), " = ball ", n)
	case 6, 7:
		word := []string{"join", "product", "union", "meet"}[r.Intn(4)]
		return name() + " = " + word + " " + name() + " " + name()
	case 8, 9:
		return name() + " = " + []string{"cone", "suspend", "rim", "rim"}[r.Intn(4)] + " " + name()
	case 10, 11:
		word := []string{"skeleton", "link"}[r.Intn(2)]
		return fmt.Sprint(name(), " = ", word, " ", name(), " ", n)
	case 12, 13:
		return "drop " + name()
	case 14, 15, 16:
		return "undo"
	}
	return bent(r, name()+" = cone "+name())
}

// TestLikeThePlainStudio: commands, one behind the other.
func TestLikeThePlainStudio(t *testing.T) {
	r := rand.New(rand.NewSource(161))
	told := map[error]int{}
	undone := 0
	for range 150 {
		s, p := New(), newPlain()
		for range 40 {
			line := someCommand(r)
			got, want := s.Do(line), p.do(line)
			if !sameError(got, want) || look(t, s) != plainLook(p) {
				t.Fatalf("%q behind %q: %v, %v\n%s\n%s", line, p.lines, got, want, look(t, s), plainLook(p))
			}
			told[withoutPlace(got)]++
			if line == "undo" && got == nil {
				undone++
			}
		}
	}
	for _, e := range []error{nil, api.ErrText, api.ErrBound, api.ErrName, api.ErrNone, api.ErrFace, api.ErrKind} {
		if told[e] < 10 {
			t.Error("too few", e, told[e])
		}
	}
	if undone < 300 {
		t.Error("too few", undone)
	}
}

// TestUndoTakesBack: one command each, up to the first, and goes on from there.
func TestUndoTakesBack(t *testing.T) {
	r := rand.New(rand.NewSource(1611))
	for range 60 {
		s := New()
		looks := []string{look(t, s)}
		for range 30 {
			if line := someCommand(r); line != "undo" && s.Do(line) == nil {
				looks = append(looks, look(t, s))
			}
		}
		for len(looks) > 1 {
			if now := look(t, s); now != looks[len(looks)-1] {
				t.Fatal(now, looks[len(looks)-1])
			}
			if err := s.Do("undo"); err != nil {
				t.Fatal(err)
			}
			looks = looks[:len(looks)-1]
		}
		if err := s.Do("undo"); err != api.ErrNone || look(t, s) != looks[0] {
			t.Error(err, look(t, s))
		}
	}
}

// TestFaults that a command's own part tells.
func TestFaults(t *testing.T) {
	for line, want := range map[string]error{
		"x = text 0 x":             &api.Fault{At: 2, Err: api.ErrText},
		"x = text 0;":              &api.Fault{At: 2, Err: api.ErrText},
		"x = text  100":            &api.Fault{At: 3, Err: api.ErrText},
		"x = text 1; 0 0":          &api.Fault{At: 0, Err: api.ErrFace},
		"x = text 0 1 2 3 4 5 6 7": &api.Fault{At: 0, Err: api.ErrBound},
		"x = text " + strings.Repeat(" ", api.MaxText+1): &api.Fault{At: 0, Err: api.ErrBound},
		"x = text 0\n":    &api.Fault{At: 1, Err: api.ErrText},
		"x = text \n":     &api.Fault{At: 0, Err: api.ErrText},
		"x = text é":      &api.Fault{At: 0, Err: api.ErrText},
		"x = ball 7":      api.ErrBound,
		"x = sphere 7":    api.ErrBound,
		"x = sphere 98":   api.ErrBound,
		"x = sphere 99":   api.ErrFace, // it would have the vertex 100
		"x = ball 99":     api.ErrBound,
		"x = cone b":      api.ErrBound,
		"x = suspend b":   api.ErrBound,
		"x = join c c":    api.ErrFace,
		"x = product b b": api.ErrBound,
		"x = union d d":   nil,
		"x = link a 5":    api.ErrFace,
		"x = rim a":       api.ErrBound,
		"x = rim e":       api.ErrKind,
		"x = rim d":       api.ErrBound,
		"x = rim b":       api.ErrBound,
		"x = cone x":      api.ErrName,
		"x = link x 7":    api.ErrName,
		"x = union a x":   api.ErrName,
		"x = union x a":   api.ErrName,
		"drop x":          api.ErrName,
		"a = cone x":      api.ErrName,
	} {
		s := opened(t, "a = point", "b = ball 6", "c = text 60", "d = text ", "e = text 0 1; 0 2; 0 3")
		before := look(t, s)
		err := s.Do(line)
		if !sameError(err, want) || (look(t, s) == before) != (want != nil) {
			t.Errorf("%.30q: %v", line, err)
		}
		if _, ok := want.(*api.Fault); !ok && err != want {
			t.Errorf("%.30q: %v is not bare", line, err)
		}
	}
}

// TestManySteps: the bound, which errors stand ahead of it, and that undo takes one back.
func TestManySteps(t *testing.T) {
	s := New()
	refused := func(line string, want error) {
		t.Helper()
		before := look(t, s)
		if err := s.Do(line); err != want || look(t, s) != before {
			t.Errorf("%q: %v", line, err)
		}
	}
	for i := range api.MaxSteps {
		refused("x", api.ErrText) // what is refused is none
		refused("drop zz", api.ErrName)
		if err := s.Do([]string{"a = point", "a = sphere 0", "drop a"}[i%3]); err != nil {
			t.Fatal(i, err)
		}
	}
	for line, want := range map[string]error{"a = point": api.ErrBound, "drop a": api.ErrBound, "drop zz": api.ErrBound, "a = cone zz": api.ErrBound, "a = text 0 x": api.ErrBound, "a = ball 7": api.ErrBound, "x": api.ErrText, "drop A": api.ErrText, "": api.ErrText} {
		refused(line, want)
	}
	for range 3 {
		if err := s.Do("undo"); err != nil {
			t.Fatal(err)
		}
		refused("drop zz", api.ErrName)
		if err := s.Do("b = text 0 0"); !sameError(err, &api.Fault{Err: api.ErrFace}) {
			t.Error(err)
		}
	}
	for range 3 {
		if err := s.Do("b = point"); err != nil {
			t.Error(err)
		}
	}
	refused("b = point", api.ErrBound)
	for range api.MaxSteps {
		if err := s.Do("undo"); err != nil {
			t.Fatal(err)
		}
	}
	refused("undo", api.ErrNone)
	if got := s.Names(); len(got) > 0 || s.Journal() != "" {
		t.Error(got)
	}
}

// TestGetAndNames of what is there, and of what is not.
func TestGetAndNames(t *testing.T) {
	s := New()
	if l := s.Names(); len(l) > 0 {
		t.Error(l)
	}
	for _, line := range []string{"b = point", "aa = ball 1", "z = point", "a = ball 2", "ab = point", "b = ball 3", "drop z"} {
		if err := s.Do(line); err != nil {
			t.Fatal(line, err)
		}
	}
	if got := s.Names(); !slices.Equal(got, []string{"a", "aa", "ab", "b"}) {
		t.Error(got)
	}
	for _, name := range []string{"z", "", "c", "A", "a ", "abcdefghijklmn", "undo", "\x00"} {
		if c, err := s.Get(name); err != api.ErrName || len(c.Facets) > 0 {
			t.Error(name, c, err)
		}
	}
	if got := textOf(t, s, "b"); got != "0 1 2 3" {
		t.Error(got)
	}
}

// TestWhatIsHandedOut is new memory.
func TestWhatIsHandedOut(t *testing.T) {
	s := opened(t, "a = text 0 1 2; 2 3", "b = union a a", "c = skeleton a 9")
	before := look(t, s)
	for _, name := range s.Names() {
		c, err := s.Get(name)
		if err != nil {
			t.Fatal(err)
		}
		for i := range c.Facets {
			c.Facets[i] = append(c.Facets[i], 77)
			clear(c.Facets[i])
		}
		d, _ := s.Get(name)
		d.Facets = append(d.Facets[:1], []int{98})
		d.Facets[0][0] = 97
		d.Facets[0] = append(d.Facets[0][:1], 96)
		l := s.Names()
		clear(l)
	}
	if now := look(t, s); now != before {
		t.Error(now)
	}
	s.Do("d = text 0 1; 2 3")
	c, _ := s.Get("d")
	c.Facets[0] = append(c.Facets[0], 55)
	if fmt.Sprint(c.Facets) != "[[0 1 55] [2 3]]" {
		t.Error("two lists share memory:", c.Facets)
	}
	l, err := s.Each("euler", 3)
	clear(l)
	if m, again := s.Each("euler", 3); err != nil || again != nil || fmt.Sprint(m) != "[1 1 1 2]" {
		t.Error(m, err, again)
	}
}
