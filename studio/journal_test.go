package studio

import (
	"errors"
	"fmt"
	"math/rand"
	"strings"
	"testing"

	"handlebody/api"
)

// notOpened: a fault at that place, and nothing else.
func notOpened(t *testing.T, text string, want error, at int) {
	t.Helper()
	s, n, err := Open(text)
	f, ok := err.(*api.Fault)
	if !ok || f.At != at || f.Err != want || s != nil || n != 0 {
		t.Errorf("%.60q: %v, %d, %v %v, want %v at %d", text, s, n, f, err, want, at)
	}
}

// TestJournal of commands that were done, as they stand.
func TestJournal(t *testing.T) {
	s := New()
	if j := s.Journal(); j != "" {
		t.Errorf("%q", j)
	}
	for _, line := range []string{"a = point", "x", "b = text  0;1 ", "drop z", "c = text ", "drop a", "undo", "d = sphere 01", "e = cone z", "f = cone a", "undo", "a = text 0 0", "a = point", "drop c"} {
		s.Do(line)
	}
	if j := s.Journal(); j != "a = point\nb = text  0;1 \nc = text \nd = sphere 01\na = point\ndrop c\n" {
		t.Errorf("%q", j)
	}
}

// TestOpenedIsAsItWas: also what is done behind it.
func TestOpenedIsAsItWas(t *testing.T) {
	r := rand.New(rand.NewSource(164))
	for range 100 {
		s := New()
		for range 30 {
			s.Do(someCommand(r))
		}
		s.Each("euler", 3)
		o, n, err := Open(s.Journal())
		if err != nil || n != strings.Count(s.Journal(), "\n") || look(t, o) != look(t, s) || o.Asked() != 0 {
			t.Fatal(n, err, s.Journal())
		}
		before := look(t, s)
		for range 20 {
			line := someCommand(r)
			o.Do(line)
		}
		if look(t, s) != before {
			t.Error("two studios share something")
		}
		for o.Do("undo") == nil {
		}
		if len(o.Names()) > 0 || o.Journal() != "" {
			t.Error(look(t, o))
		}
	}
}

// TestOpenFaults at the first line that has one.
func TestOpenFaults(t *testing.T) {
	for text, want := range map[string]struct {
		at  int
		err error
	}{
		"a = point":                              {0, api.ErrText},
		"x":                                      {0, api.ErrText},
		" ":                                      {0, api.ErrText},
		"\n":                                     {0, api.ErrText},
		"a = point\n\n":                          {1, api.ErrText},
		"\na = point\n":                          {0, api.ErrText},
		"undo":                                   {0, api.ErrText},
		"undo\n":                                 {0, api.ErrText},
		"a = point\nundo\n":                      {1, api.ErrText},
		"a = point\nundo\nx\n":                   {1, api.ErrText},
		"a = point\nb = cone a":                  {1, api.ErrText},
		"a = point\r\n":                          {0, api.ErrText},
		"a = point\nb = cone z\nx":               {1, api.ErrName},
		"a = point\nb = cone z":                  {1, api.ErrText}, // its end is lacked ahead of its name
		"drop a\n":                               {0, api.ErrName},
		"a = point\nb = point\ndrop a\ndrop a\n": {3, api.ErrName},
		"a = text 0 x\n":                         {0, api.ErrText},
		"a = point\nb = text 0 0\n":              {1, api.ErrFace},
		"a = point\nb = text 0 1 2 3 4 5 6 7\n":  {1, api.ErrBound},
		"a = ball 6\nb = point\nc = cone a\n":    {2, api.ErrBound},
		"a = point\nb = rim a\n":                 {1, api.ErrBound},
		"a = point\nb = link a 7\nundo\n":        {1, api.ErrFace},
		"a = text 0 1;0 2;0 3\nb = rim a\nundo\n": {1, api.ErrKind},
		"euler a\n": {0, api.ErrText},
	} {
		notOpened(t, text, want.err, want.at)
	}
	_, _, err := Open("a = text 0 x\n")
	var f *api.Fault
	if !errors.As(err, &f) || errors.As(f.Err, &f) {
		t.Error("a fault has a fault in it")
	}
}

// TestLongJournals, up to the bound.
func TestLongJournals(t *testing.T) {
	s, n, err := Open("")
	if err != nil || n != 0 || s == nil || len(s.Names()) > 0 || s.Do("undo") != api.ErrNone || s.Do("a = point") != nil {
		t.Error(n, err)
	}
	most := strings.Repeat("a = point\ndrop a\n", api.MaxSteps/2)
	s, n, err = Open(most)
	if err != nil || n != api.MaxSteps || s.Journal() != most || len(s.Names()) > 0 {
		t.Error(n, err)
	}
	if err := s.Do("a = point"); err != api.ErrBound {
		t.Error(err)
	}
	notOpened(t, most+"a = point\n", api.ErrBound, api.MaxSteps)
	notOpened(t, most+"drop z\n", api.ErrBound, api.MaxSteps)
	notOpened(t, most+"x\n", api.ErrText, api.MaxSteps)
	notOpened(t, most+"undo\n", api.ErrText, api.MaxSteps)
	notOpened(t, most+"a = point", api.ErrText, api.MaxSteps)
	long := "a = text " + strings.Repeat(" ", api.MaxText) + "\n"
	if s, n, err := Open(long); err != nil || n != 1 || s.Journal() != long {
		t.Error(n, err)
	}
	notOpened(t, "a = text  "+strings.Repeat(" ", api.MaxText)+"\n", api.ErrBound, 0)
}

// TestWhateverIsGiven: every call ends, and none panics.
func TestWhateverIsGiven(t *testing.T) {
	r := rand.New(rand.NewSource(1))
	for range 3000 {
		text := make([]byte, r.Intn(40))
		for i := range text {
			text[i] = "ab = textpoindrjlkfy019;\n\x00\xff"[r.Intn(27)]
		}
		s := opened(t, "a = sphere 1")
		line := string(text)
		s.Do(line)
		s.Do("b = text " + line)
		s.Ask(line)
		s.Ask("euler " + line)
		s.Get(line)
		s.Each(line, r.Intn(20)-1)
		Open(line)
		if o, n, err := Open("a = point\n" + line); (o == nil) == (err == nil) || err != nil && n != 0 {
			t.Errorf("%q: %d, %v", line, n, err)
		}
	}
	s := New()
	long := strings.Repeat("a = cone a ", 100000)
	if err := s.Do(long); err != api.ErrText {
		t.Error(err)
	}
	if text, err := s.Ask(long); text != "" || err != api.ErrText {
		t.Error(err)
	}
	if got := fmt.Sprint(s.Names()); got != "[]" {
		t.Error(got)
	}
}
