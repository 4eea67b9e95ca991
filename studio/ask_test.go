package studio

import (
	"math/rand"
	"slices"
	"strings"
	"testing"

	"handlebody/api"
)

// someQuestion of few names, which need not be there.
func someQuestion(r *rand.Rand) string {
	line := []string{"euler", "homology", "shape", "surface"}[r.Intn(4)] + " " + string(rune('a'+r.Intn(4)))
	if r.Intn(20) == 0 {
		return bent(r, line)
	}
	return line
}

// TestAnswers of P162.
func TestAnswers(t *testing.T) {
	s := opened(t,
		"a = sphere 1", "b = sphere 0", "torus = product a a", "plane = text "+plane, "e = text ", "f = point",
		"band = text 0 1 2; 1 2 3; 2 3 4; 0 3 4; 0 1 4", "disc = ball 2", "i = ball 1", "ring = product a i", "sum = suspend plane",
		"two = text 0 1 2; 3 4 5", "ball = ball 4", "planes = product plane b", "most = sphere 6", "solid = join a a",
		"mixed = text "+plane+"; 6 7 8; 6 7 9; 6 8 9; 7 8 9; 10 11 12", "both = text "+plane+"; 5 6; 6 7; 5 7", "tree = text 0 1; 1 2; 1 3")
	for line, want := range map[string]string{
		"euler a": "0", "euler b": "2", "euler torus": "0", "euler plane": "1", "euler e": "0", "euler f": "1", "euler planes": "2", "euler sum": "1", "euler most": "2", "euler both": "0",
		"homology a": "Z^1, Z^1", "homology b": "Z^2", "homology torus": "Z^1, Z^2, Z^1", "homology plane": "Z^1, Z/2, 0", "homology e": "", "homology f": "Z^1",
		"homology sum": "Z^1, 0, Z/2, 0", "homology planes": "Z^2, Z/2 + Z/2, 0", "homology ball": "Z^1, 0, 0, 0, 0", "homology most": "Z^1, 0, 0, 0, 0, 0, Z^1", "homology solid": "Z^1, 0, 0, Z^1", "homology both": "Z^1, Z^1 + Z/2, 0",
		"shape a": "0 1; 0 2; 1 2", "shape e": "", "shape f": "0", "shape two": "0 1 2; 3 4 5", "shape tree": "0 1; 1 2; 1 3",
		"surface torus": "orientable 1 0", "surface plane": "plain 1 0", "surface band": "plain 1 1", "surface disc": "orientable 0 1", "surface ring": "orientable 0 2", "surface two": "orientable 0 1; orientable 0 1",
		"surface planes": "plain 1 0; plain 1 0", "surface mixed": "orientable 0 0; orientable 0 1; plain 1 0",
	} {
		if got, err := s.Ask(line); got != want || err != nil {
			t.Errorf("%q: %q, %v", line, got, err)
		}
	}
}

// TestNoAnswers: errors of questions, of names, and of what is asked.
func TestNoAnswers(t *testing.T) {
	s := opened(t, "a = sphere 1", "b = sphere 0", "e = text ", "points = text 0;1;2;3;4;5;6;7;8;9;10;11;12;13;14;15;16;17", "edges = join points points", "solid = ball 3", "tree = text 0 1; 1 2; 1 3", "leaf = text 0 1 2; 2 3", "book = text 0 1 2; 0 1 3; 0 1 4", "deep = ball 4")
	for line, want := range map[string]error{
		"": api.ErrText, "euler": api.ErrText, "euler ": api.ErrText, " euler a": api.ErrText, "euler  a": api.ErrText, "euler a ": api.ErrText, "euler a b": api.ErrText, "euler a\n": api.ErrText, "Euler a": api.ErrText, "volume a": api.ErrText, "a": api.ErrText, "a euler": api.ErrText, "euler A": api.ErrText, "euler 1": api.ErrText, "euler abcdefghijklm": api.ErrText, "volume z": api.ErrText, "eulera": api.ErrText, "undo": api.ErrText, "a = point": api.ErrText, "Z euler": api.ErrText,
		"euler z": api.ErrName, "homology abcdefghijkl": api.ErrName, "shape aa": api.ErrName, "surface euler": api.ErrName,
		"homology edges": api.ErrBound, "surface b": api.ErrBound, "surface e": api.ErrBound, "surface deep": api.ErrBound,
		"surface a": api.ErrKind, "surface solid": api.ErrKind, "surface tree": api.ErrKind, "surface leaf": api.ErrKind, "surface book": api.ErrKind,
	} {
		if got, err := s.Ask(line); got != "" || err != want {
			t.Errorf("%q: %q, %v", line, got, err)
		}
	}
	if n := s.Asked(); n != 0 {
		t.Error("errors are counted:", n)
	}
	if s.told != nil {
		t.Error("what holds answers is made ahead of them")
	}
	if got, err := s.Ask("euler edges"); got != "-288" || err != nil {
		t.Error(got, err)
	}
	s.Ask("homology edges")
	if n := s.Asked(); n != 1 {
		t.Error(n)
	}
}

// TestAskedCounts what was worked out, step by step.
func TestAskedCounts(t *testing.T) {
	s := opened(t, "a = sphere 1", "b = point")
	for i, step := range []struct {
		line string
		want int
	}{
		{"euler a", 1}, {"euler a", 0}, {"homology a", 1}, {"shape a", 1}, {"euler b", 1}, {"surface a", 0}, {"surface a", 0},
		{"b = ball 1", 0}, {"euler a", 0}, {"euler b", 1}, // another name's complex changes nothing
		{"a = text 1 0; 2 1;2 0", 0}, {"euler a", 0}, {"homology a", 0}, // the same complex, made in another way
		{"undo", 0}, {"euler a", 0}, // and back
		{"a = point", 0}, {"euler a", 1}, {"euler a", 0}, {"undo", 0}, {"euler a", 1}, {"shape a", 1}, // not the same ever since
		{"a = point", 0}, {"a = sphere 1", 0}, {"euler a", 1}, {"homology a", 1},
		{"drop a", 0}, {"euler a", 0}, {"undo", 0}, {"euler a", 1}, {"homology a", 1},
		{"drop a", 0}, {"a = sphere 1", 0}, {"euler a", 1},
		{"e = text ", 0}, {"homology e", 1}, {"homology e", 0}, {"shape e", 1}, {"drop e", 0}, {"undo", 0}, {"shape e", 1}, // the one without faces is not none
		{"a = ball 7", 0}, {"a = cone zz", 0}, {"a", 0}, {"a = text 0 x", 0}, {"euler a", 0}, // refused: nothing has changed
		{"c = cone a", 0}, {"euler a", 0}, {"euler c", 1}, {"aa = point", 0}, {"euler aa", 1}, {"drop a", 0}, {"euler aa", 0}, {"euler c", 0},
	} {
		if s.Do(step.line) != nil {
			s.Ask(step.line)
		}
		if n := s.Asked(); n != step.want {
			t.Error(i, step.line, n)
		}
	}
	s.Ask("shape aa")
	s.Ask("homology aa")
	if n, again := s.Asked(), s.Asked(); n != 2 || again != 0 {
		t.Error(n, again)
	}
}

// TestAskedLikeThePlainStudio: commands and questions, one behind the other.
func TestAskedLikeThePlainStudio(t *testing.T) {
	r := rand.New(rand.NewSource(162))
	answers, errors, kept := 0, 0, 0
	for range 120 {
		s, p := New(), newPlain()
		for range 60 {
			line, question, workers := someCommand(r), someQuestion(r), r.Intn(api.Workers)+1
			switch r.Intn(8) {
			case 0, 1, 2:
				if got, want := s.Do(line), p.do(line); !sameError(got, want) {
					t.Fatal(line, got, want)
				}
			case 3, 4, 5:
				before := p.worked
				got, err := s.Ask(question)
				want, wrong := p.ask(question)
				if got != want || err != wrong {
					t.Fatalf("%q of %q: %q, %v; %q, %v", question, p.lines, got, err, want, wrong)
				}
				switch {
				case err != nil:
					errors++
				case p.worked == before:
					kept++
				default:
					answers++
				}
			case 6:
				question, _, _ = strings.Cut(question, " ")
				got, err := s.Each(question, workers)
				if want := p.each(question); !slices.Equal(got, want) || err != nil {
					t.Fatalf("%q of %q: %q, %v; %q", question, p.lines, got, err, want)
				}
			default:
				if got, want := s.Asked(), p.asked(); got != want {
					t.Fatalf("%q: %d, %d", p.lines, got, want)
				}
			}
		}
	}
	if answers < 200 || errors < 200 || kept < 200 {
		t.Error("too few", answers, errors, kept)
	}
}
