package studio

import (
	"math/rand"
	"strings"
	"testing"

	"handlebody/api"
	"handlebody/cells"
)

// TestEveryCommand of P160.
func TestEveryCommand(t *testing.T) {
	s := opened(t,
		"a = sphere 1", "b = point", "c = cone a", "d = text  5;3 4 ", "e = text ", "f = ball 2",
		"g = join a d", "h = product d f", "i = union a d", "j = meet f a", "k = suspend a",
		"l = skeleton f 0", "m = link c 3", "n = rim f", "o = skeleton f 99", "p = join b e", "q = meet b d", "r = sphere 0", "s = skeleton c 01", "t = link c 00", "u = rim a")
	for name, want := range map[string]string{
		"a": "0 1; 0 2; 1 2", "b": "0", "c": "0 1 3; 0 2 3; 1 2 3", "d": "3 4; 5", "e": "", "f": "0 1 2",
		"g": "0 1 6 7; 0 1 8; 0 2 6 7; 0 2 8; 1 2 6 7; 1 2 8",
		"h": "0 1 2 5; 0 1 4 5; 0 3 4 5; 6 7 8", "i": "0 1; 0 2; 1 2; 3 4; 5", "j": "0 1; 0 2; 1 2",
		"k": "0 1 3; 0 1 4; 0 2 3; 0 2 4; 1 2 3; 1 2 4", "l": "0; 1; 2", "m": "0 1; 0 2; 1 2", "n": "0 1; 0 2; 1 2",
		"o": "0 1 2", "p": "0", "q": "", "r": "0; 1", "s": "0 1; 0 2; 0 3; 1 2; 1 3; 2 3", "t": "1 3; 2 3", "u": "",
	} {
		if got := textOf(t, s, name); got != want {
			t.Errorf("%s: %q", name, got)
		}
	}
	if err := s.Do("drop d"); err != nil || strings.Join(s.Names(), "") != "abcefghijklmnopqrstu" {
		t.Error(err, s.Names())
	}
	if textOf(t, s, "g") != "0 1 6 7; 0 1 8; 0 2 6 7; 0 2 8; 1 2 6 7; 1 2 8" {
		t.Error("what was made of a name hangs on it")
	}
}

// TestFirstAndSecond: what the order of A and B changes.
func TestFirstAndSecond(t *testing.T) {
	s := opened(t, "a = ball 1", "b = text 7", "c = join a b", "d = join b a", "e = text 0; 1; 2", "f = product a e", "g = product e a")
	for name, want := range map[string]string{"c": "0 1 9", "d": "7 8 9", "f": "0 3; 1 4; 2 5", "g": "0 1; 2 3; 4 5"} {
		if got := textOf(t, s, name); got != want {
			t.Errorf("%s: %q", name, got)
		}
	}
}

// TestSpheresAndBalls: all faces, from the words.
func TestSpheresAndBalls(t *testing.T) {
	for _, digits := range []string{"0", "1", "2", "3", "4", "5", "6", "7", "8", "00", "06", "07", "10", "57", "98", "99"} {
		for _, word := range []string{"sphere", "ball"} {
			line := "x = " + word + " " + digits
			p := plainState{}
			want := p.do(plainRead(line))
			s := New()
			if err := s.Do(line); err != want {
				t.Error(line, err, want)
			}
			if c, err := s.Get("x"); want != nil && err != api.ErrName || want == nil && textOf(t, s, "x") != p.text("x") {
				t.Error(line, c, err)
			}
		}
	}
	s := opened(t, "a = ball 6", "b = sphere 6")
	for name, want := range map[string]int{"a": 127, "b": 254} {
		c, _ := s.Get(name)
		v, err := cells.Vector(c)
		n := 0
		for _, x := range v {
			n += x
		}
		if n != want || err != nil {
			t.Error(name, v, err)
		}
	}
}

// TestNames of P160.
func TestNames(t *testing.T) {
	for name, ok := range map[string]bool{
		"a": true, "z": true, "abcdefghijkl": true, "zzzzzzzzzzzz": true, "undo": true, "drop": true, "text": true, "point": true, "euler": true,
		"": false, "abcdefghijklm": false, "A": false, "aB": false, "a1": false, "1": false, "a-b": false, "a_b": false, "`": false, "{": false, "é": false, "a b": false, " a": false, "a ": false, "a\n": false, "a\x00": false, "ａ": false, "=": false, strings.Repeat("a", 100): false,
	} {
		for _, line := range []string{name + " = point", name + " = text 1", "x = cone " + name, "x = union a " + name, "x = join " + name + " a", "drop " + name, "x = skeleton " + name + " 1", "x = link " + name + " 0"} {
			s := opened(t, "a = point")
			s.Do(name + " = point")
			if err := s.Do(line); (err == nil) != ok || !ok && err != api.ErrText {
				t.Errorf("%q: %v", line, err)
			}
		}
	}
	s := opened(t, "undo = point", "drop = cone undo", "drop drop", "text = text 5", "drop undo", "point = point", "drop point")
	if got := strings.Join(s.Names(), " "); got != "text" {
		t.Error(got)
	}
}

// TestNumbers of P160.
func TestNumbers(t *testing.T) {
	for word, ok := range map[string]bool{
		"0": true, "1": true, "00": true, "01": true,
		"": false, "000": false, "001": false, "100": false, "+1": false, "-1": false, "-0": false, "1 ": false, " 1": false, "x": false, "1x": false, "0x1": false, "1.": false, "٣": false, "1\n": false, "/": false, ":": false, "1 1": false,
	} {
		for _, line := range []string{"x = sphere " + word, "x = ball " + word, "x = skeleton a " + word, "x = link a " + word} {
			s := opened(t, "a = sphere 0")
			if err := s.Do(line); (err == nil) != ok || !ok && err != api.ErrText {
				t.Errorf("%q: %v", line, err)
			}
		}
	}
}

// TestWhatIsNoCommand: also at the bound, and ahead of all else.
func TestWhatIsNoCommand(t *testing.T) {
	for _, line := range []string{
		"", " ", "a", "a =", "a = ", "= point", " = point", "a = point ", " a = point", "a  = point", "a =  point", "a=point", "a = Point", "a = points", "a == point", "a = point 1", "a = point\n", "a = point\r",
		"a = text", "a text 0", "a = texts 0", "a = text\t0", "a = sphere", "a = sphere ", "a = sphere 1 2", "a = sphere b", "a = ball", "a = join", "a = join b", "a = join b ", "a = join b b b", "a = join b  b", "a = join b 1",
		"a = product b", "a = union b", "a = meet b", "a = cone", "a = cone ", "a = cone b b", "a = cone 1", "a = suspend", "a = suspend b b", "a = skeleton b", "a = skeleton 1 b", "a = skeleton b b", "a = skeleton b 1 1", "a = link b", "a = link b 0 1", "a = rim", "a = rim b 1",
		"drop", "drop ", "drop b b", "drop 1", " drop b", "drop  b", "Drop b", "undo ", " undo", "undo b", "Undo", "undo\n", "a = undo", "a = drop b", "a = star b 0", "a = b", "point", "euler b", "a = euler b",
	} {
		s := opened(t, "b = point")
		before := look(t, s)
		if err := s.Do(line); err != api.ErrText || look(t, s) != before {
			t.Errorf("%q: %v", line, err)
		}
	}
}

// word of a line, or what is nearly one.
func word(r *rand.Rand) string {
	l := []string{"a", "b", "ab", "abcdefghijkl", "=", "=", "text", "point", "sphere", "ball", "join", "product", "union", "meet", "cone", "suspend", "skeleton", "link", "rim", "drop", "undo", "0", "1", "12", "123", "", "A", "abcdefghijklm", "0;1", "euler", "homology", "shape", "surface"}
	return l[r.Intn(len(l))]
}

// bent: a line of which a byte is changed, left out or put in, at times.
func bent(r *rand.Rand, line string) string {
	if line == "" || r.Intn(2) == 0 {
		return line
	}
	i := r.Intn(len(line))
	in := []string{"", " ", "a", "0", "=", "\n", ";"}[r.Intn(7)]
	return line[:i] + in + line[i+r.Intn(2):]
}

// TestLinesByPatterns: which lines are commands, which are questions.
func TestLinesByPatterns(t *testing.T) {
	r := rand.New(rand.NewSource(160))
	commands, questions := 0, 0
	for range 60000 {
		var l []string
		for range 1 + r.Intn(5) {
			l = append(l, word(r))
		}
		if r.Intn(2) == 0 {
			l = append([]string{"b", "="}, l...)
		}
		line := bent(r, strings.Join(l, " "))
		s := New()
		is := plainRead(line) != nil
		if err := s.Do(line); (err == api.ErrText) == is {
			t.Fatalf("%q: %v, %v", line, is, err)
		}
		asks := asAsked.MatchString(line)
		if _, err := s.Ask(line); (err == api.ErrText) == asks {
			t.Fatalf("%q: %v, %v", line, asks, err)
		}
		if is {
			commands++
		}
		if asks {
			questions++
		}
	}
	if commands < 1000 || questions < 200 {
		t.Error("too few", commands, questions)
	}
}
