package studio

import (
	"errors"
	"fmt"
	"maps"
	"regexp"
	"slices"
	"strconv"
	"strings"
	"testing"

	"handlebody/api"
	"handlebody/cells"
	"handlebody/homology"
	"handlebody/manifold"
)

// What the program answers is held against a plain studio, which keeps lines alone and does all of them again each time.

const plane = "0 1 2; 0 2 3; 0 3 4; 0 4 5; 0 1 5; 1 2 4; 2 3 5; 1 3 4; 2 4 5; 1 3 5"

// The lines of the document, told by patterns.
var (
	asMade  = regexp.MustCompile(`^([a-z]{1,12}) = (?:(text) ((?s:.*))|(point)|(sphere|ball) ([0-9]{1,2})|(join|product|union|meet) ([a-z]{1,12}) ([a-z]{1,12})|(cone|suspend|rim) ([a-z]{1,12})|(skeleton|link) ([a-z]{1,12}) ([0-9]{1,2}))$`)
	asOther = regexp.MustCompile(`^()(?:(drop) ([a-z]{1,12})|(undo))$`)
	asAsked = regexp.MustCompile(`^(euler|homology|shape|surface) ([a-z]{1,12})$`)
)

// plainRead a line: the name that is made (empty, if none is), and the words behind it; none: no command.
func plainRead(line string) []string {
	found := asMade.FindStringSubmatchIndex(line)
	if found == nil {
		found = asOther.FindStringSubmatchIndex(line)
	}
	var out []string
	for i := 2; i < len(found); i += 2 {
		if found[i] >= 0 {
			out = append(out, line[found[i]:found[i+1]])
		}
	}
	return out
}

// allSets of vertices from 0 on that are not empty, of at most so many.
func allSets(vertices, most int) [][]int {
	var out [][]int
	for bits := 1; bits < 1<<vertices; bits++ {
		var set []int
		for v := range vertices {
			if bits>>v&1 == 1 {
				set = append(set, v)
			}
		}
		if len(set) <= most {
			out = append(out, set)
		}
	}
	return out
}

// plainSimplex: all sets of vertices from 0 on, of at most so many.
func plainSimplex(vertices, most int) (cells.Complex, error) {
	if vertices > api.MaxVertex+1 {
		return cells.Complex{}, api.ErrFace
	}
	if most > api.MaxDim+1 {
		return cells.Complex{}, api.ErrBound
	}
	return cells.Make(allSets(vertices, most))
}

// plainOf two complexes.
func plainOf(word string, a, b cells.Complex) (cells.Complex, error) {
	switch word {
	case "join":
		return cells.Join(a, b)
	case "product":
		return cells.Product(a, b)
	case "union":
		return cells.Union(a, b)
	}
	return cells.Meet(a, b)
}

// plainState: complexes by names.
type plainState map[string]cells.Complex

// text of a complex; ? for none.
func (p plainState) text(name string) string {
	c, ok := p[name]
	if !ok {
		return "?"
	}
	text, _ := cells.Text(c)
	return text
}

// plainMade: what a command that gives a name a complex makes.
func (p plainState) plainMade(l []string) (cells.Complex, error) {
	number := func(i int) int { n, _ := strconv.Atoi(l[i]); return n }
	switch l[1] {
	case "text":
		return cells.Read(l[2])
	case "point":
		return plainSimplex(1, 1)
	case "sphere":
		return plainSimplex(number(2)+2, number(2)+1)
	case "ball":
		return plainSimplex(number(2)+1, number(2)+1)
	}
	a, ok := p[l[2]]
	if !ok {
		return a, api.ErrName
	}
	switch l[1] {
	case "cone":
		return cells.Cone(a)
	case "suspend":
		return cells.Suspend(a)
	case "rim":
		return manifold.Rim(a)
	case "skeleton":
		return cells.Skeleton(a, number(3))
	case "link":
		return cells.Link(a, []int{number(3)})
	}
	b, ok := p[l[3]]
	if !ok {
		return b, api.ErrName
	}
	return plainOf(l[1], a, b)
}

// do a command that is one, and is not undo.
func (p plainState) do(l []string) error {
	if l[1] == "drop" {
		if _, ok := p[l[2]]; !ok {
			return api.ErrName
		}
		delete(p, l[2])
		return nil
	}
	c, err := p.plainMade(l)
	if err == nil {
		p[l[0]] = c
	}
	return err
}

// plainStudio: the commands that were done and not undone, and what was told.
type plainStudio struct {
	lines  []string
	told   map[string]bool
	worked int
}

func newPlain() *plainStudio { return &plainStudio{told: map[string]bool{}} }

// state: all is done again.
func (p *plainStudio) state() plainState {
	out := plainState{}
	for _, line := range p.lines {
		out.do(plainRead(line))
	}
	return out
}

// do a line.
func (p *plainStudio) do(line string) error {
	l := plainRead(line)
	before := p.state()
	switch {
	case l == nil:
		return api.ErrText
	case line == "undo" && len(p.lines) == 0:
		return api.ErrNone
	case line == "undo":
		p.lines = p.lines[:len(p.lines)-1]
	case len(p.lines) >= api.MaxSteps:
		return api.ErrBound
	default:
		if err := p.state().do(l); err != nil {
			return err
		}
		p.lines = append(p.lines, line)
	}
	after := p.state()
	for line := range p.told {
		if name := asAsked.FindStringSubmatch(line)[2]; before.text(name) != after.text(name) {
			delete(p.told, line)
		}
	}
	return nil
}

// plainAnswer to a question.
func plainAnswer(word string, c cells.Complex) (string, error) {
	switch word {
	case "euler":
		n, err := cells.Euler(c)
		return fmt.Sprint(n), err
	case "shape":
		return cells.Text(c)
	case "surface":
		k, err := manifold.Surface(c)
		out := ""
		for _, p := range k.Pieces {
			out += fmt.Sprintf("; %s %d %d", map[bool]string{true: "orientable", false: "plain"}[p.Turning], p.Genus, p.Rims)
		}
		return strings.TrimPrefix(out, "; "), err
	}
	l, err := homology.Complex(c)
	if err != nil {
		return "", err
	}
	groups, err := homology.Of(l)
	out := ""
	for _, g := range groups {
		one := ""
		if g.Free > 0 {
			one = fmt.Sprintf(" + Z^%d", g.Free)
		}
		for _, o := range g.Torsion {
			one += fmt.Sprintf(" + Z/%d", o)
		}
		if one == "" {
			one = " + 0"
		}
		out += ", " + one[3:]
	}
	return strings.TrimPrefix(out, ", "), err
}

// ask a line.
func (p *plainStudio) ask(line string) (string, error) {
	l := asAsked.FindStringSubmatch(line)
	if l == nil {
		return "", api.ErrText
	}
	c, ok := p.state()[l[2]]
	if !ok {
		return "", api.ErrName
	}
	text, err := plainAnswer(l[1], c)
	if err != nil {
		return "", err
	}
	if !p.told[line] {
		p.told[line] = true
		p.worked++
	}
	return text, nil
}

func (p *plainStudio) each(question string) []string {
	var out []string
	for _, name := range slices.Sorted(maps.Keys(p.state())) {
		text, err := p.ask(question + " " + name)
		if err != nil {
			text = "?"
		}
		out = append(out, text)
	}
	return out
}

func (p *plainStudio) asked() int {
	n := p.worked
	p.worked = 0
	return n
}

func (p *plainStudio) journal() string {
	out := ""
	for _, line := range p.lines {
		out += line + "\n"
	}
	return out
}

// sameError: both none, both that very error, or both a fault of that place with it.
func sameError(got, want error) bool {
	var f, g *api.Fault
	if errors.As(want, &g) {
		return errors.As(got, &f) && *f == *g
	}
	return got == want
}

// opened studio with these commands.
func opened(t *testing.T, lines ...string) *Studio {
	t.Helper()
	s := New()
	for _, line := range lines {
		if err := s.Do(line); err != nil {
			t.Fatal(line, err)
		}
	}
	return s
}

// look: all that a studio tells of its names, complexes and commands.
func look(t *testing.T, s *Studio) string {
	t.Helper()
	out := fmt.Sprintf("%q", s.Journal())
	for _, name := range s.Names() {
		out += "\n" + name + ": " + textOf(t, s, name)
	}
	return out
}

func plainLook(p *plainStudio) string {
	out := fmt.Sprintf("%q", p.journal())
	state := p.state()
	for _, name := range slices.Sorted(maps.Keys(state)) {
		out += "\n" + name + ": " + state.text(name)
	}
	return out
}

func textOf(t *testing.T, s *Studio, name string) string {
	t.Helper()
	c, err := s.Get(name)
	if err != nil {
		t.Fatal(name, err)
	}
	text, err := cells.Text(c)
	if err != nil {
		t.Fatal(name, c, err)
	}
	return text
}
