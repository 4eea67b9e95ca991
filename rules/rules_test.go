// Package rules holds what is asked of all packages together: the given numbers and texts, and the language that the program keeps to.
package rules

import (
	"bytes"
	"errors"
	"go/ast"
	"go/format"
	"go/parser"
	"go/token"
	"os"
	"path/filepath"
	"strconv"
	"strings"
	"testing"

	"handlebody/api"
	"handlebody/plain"
)

func TestBounds(t *testing.T) {
	got := []int{api.MaxSide, api.MaxEntry, api.MaxFactor, api.MaxVertex, api.MaxFaces, api.MaxDim, api.MaxText, api.MaxImage, api.MaxWord, api.MaxLetter, api.MaxLetters, api.MaxRelator, api.MaxCosets, api.MaxRows, api.MaxIndex, api.MaxPlace, api.MaxPoints, api.MaxParts, api.MaxSteps, api.MaxName, api.Workers}
	want := []int{60, 1048576, 4611686018427387904, 99, 600, 6, 20000, 24, 120, 60, 12, 400, 400, 5000, 4, 4096, 12, 12, 400, 12, 16}
	for i := range want {
		if got[i] != want[i] {
			t.Error(i, got[i], want[i])
		}
	}
}

func TestErrors(t *testing.T) {
	all := []error{api.ErrText, api.ErrBound, api.ErrShape, api.ErrFace, api.ErrName, api.ErrNone, api.ErrOrder, api.ErrKind}
	texts := []string{"text", "bound", "shape", "face", "name", "none", "order", "kind"}
	for i, e := range all {
		if e.Error() != "handlebody: "+texts[i] {
			t.Error(i, e)
		}
		if code, at := plain.Code(e); code != i+1 || at != -1 {
			t.Error(e, code, at)
		}
		f := &api.Fault{At: 7, Err: e}
		if code, at := plain.Code(f); code != i+1 || at != 7 || f.Error() != e.Error() || !errors.Is(f, e) {
			t.Error(f, code, at)
		}
	}
}

// packages of the program; what else is laid into a copy of it is not asked.
const packages = "smith cells cubes morse homology cup surface manifold group cover label convex persist reeb index studio whole"

// sources: the program's Go files, tests left out.
func sources(t *testing.T) []string {
	var out []string
	for _, name := range strings.Fields(packages) {
		files, err := filepath.Glob(filepath.Join("..", name, "*.go"))
		if err != nil || len(files) == 0 {
			t.Fatal(name, err)
		}
		for _, path := range files {
			if !strings.HasSuffix(path, "_test.go") {
				out = append(out, path)
			}
		}
	}
	return out
}

const library = " bytes cmp container/heap errors iter maps math math/bits slices sort strconv strings sync sync/atomic unicode unicode/utf8 "

func TestSourcesKeepToTheLanguage(t *testing.T) {
	for _, path := range sources(t) {
		text, err := os.ReadFile(path)
		if err != nil {
			t.Fatal(err)
		}
		if laid, err := format.Source(text); err != nil || !bytes.Equal(laid, text) {
			t.Error(path, "is not laid out by gofmt", err)
		}
		if bytes.Contains(text, []byte("//go:")) {
			t.Error(path, "has a //go: line")
		}
		files := token.NewFileSet()
		file, err := parser.ParseFile(files, path, text, 0)
		if err != nil {
			t.Fatal(err)
		}
		for _, i := range file.Imports {
			name, _ := strconv.Unquote(i.Path.Value)
			if !strings.HasPrefix(name, "handlebody/") && !strings.Contains(library, " "+name+" ") {
				t.Error(path, "imports", name)
			}
		}
		for _, d := range file.Decls {
			if f, ok := d.(*ast.FuncDecl); ok && files.Position(f.End()).Line-files.Position(f.Pos()).Line > 60 {
				t.Error(path, f.Name.Name, "is too long")
			}
		}
	}
}
