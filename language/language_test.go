// Package language has the tests that the program keeps to its language, and each layer to the layers that it may call.
package language

import (
	"bytes"
	"go/ast"
	"go/format"
	"go/parser"
	"go/token"
	"os"
	"path/filepath"
	"slices"
	"strconv"
	"strings"
	"testing"
)

const root = ".."

// library are the packages of the library that the program may import.
const library = " bytes cmp container/heap errors iter maps math math/bits slices sort strconv strings sync sync/atomic unicode unicode/utf8 "

// layers are the packages of the program, and which of them each one may call.
var layers = map[string]string{
	"api":     "",
	"words":   "api",
	"blocks":  "api words",
	"bits":    "api",
	"queue":   "api",
	"thread":  "api blocks",
	"meta":    "api bits thread",
	"sets":    "api",
	"model":   "api",
	"prog":    "api",
	"text":    "api prog",
	"eval":    "api model prog",
	"order":   "api",
	"ref":     "api thread meta sets",
	"txn":     "api thread ref",
	"wait":    "api thread meta",
	"trie":    "api bits thread",
	"cell":    "api thread meta trie",
	"count":   "api thread meta txn",
	"tmap":    "api thread txn trie cell count",
	"tset":    "api thread txn tmap",
	"skip":    "api bits thread meta txn count",
	"interp":  "api thread meta txn wait cell tmap tset skip",
	"collect": "api blocks thread meta trie skip",
	"sched":   "api words blocks queue thread prog trie collect interp",
	"judge":   "api model eval order",
	"tool":    "api text sched judge",
	"snap":    "api",
	"trace":   "api",
	"tqueue":  "api meta thread txn",
	"stats":   "api",
}

// source is a Go file of the program.
type source struct {
	path string
	pack string
	text []byte
	fset *token.FileSet
	file *ast.File
}

// sources are all Go files of the program's packages, tests aside; whatever else is laid beside them is not the program's.
func sources(t *testing.T) []source {
	t.Helper()
	var all []source
	for pack := range layers {
		paths, err := filepath.Glob(filepath.Join(root, pack, "*.go"))
		if err != nil {
			t.Fatal(err)
		}
		for _, path := range paths {
			if !strings.HasSuffix(path, "_test.go") {
				all = append(all, read(t, pack, path))
			}
		}
	}
	return all
}

func read(t *testing.T, pack, path string) source {
	t.Helper()
	text, err := os.ReadFile(path)
	if err != nil {
		t.Fatal(err)
	}
	fset := token.NewFileSet()
	file, err := parser.ParseFile(fset, path, text, parser.ParseComments)
	if err != nil {
		t.Fatal(err)
	}
	return source{path, pack, text, fset, file}
}

// imports are the paths that a file imports.
func imports(t *testing.T, s source) []string {
	t.Helper()
	var all []string
	for _, x := range s.file.Imports {
		path, err := strconv.Unquote(x.Path.Value)
		if err != nil {
			t.Fatal(err)
		}
		all = append(all, path)
	}
	return all
}

// The packages of all layers are there.
func TestAllLayersAreThere(t *testing.T) {
	there := map[string]int{}
	for _, s := range sources(t) {
		there[s.pack]++
	}
	for name := range layers {
		if there[name] == 0 {
			t.Errorf("there is no package %s", name)
		}
	}
}

// Nothing but the project's own packages and those of the library that the language has.
func TestImports(t *testing.T) {
	for _, s := range sources(t) {
		for _, path := range imports(t, s) {
			if !strings.HasPrefix(path, "concord/") && !strings.Contains(library, " "+path+" ") {
				t.Errorf("%s imports %s", s.path, path)
			}
		}
	}
}

// A layer calls the layers that the map names for it, and no other one.
func TestLayersCallThoseBelow(t *testing.T) {
	for _, s := range sources(t) {
		below := strings.Fields(layers[s.pack])
		for _, path := range imports(t, s) {
			name, own := strings.CutPrefix(path, "concord/")
			if own && !slices.Contains(below, name) {
				t.Errorf("%s calls %s", s.path, name)
			}
		}
	}
}

// No goroutines, whatever the language has.
func TestNoGoroutines(t *testing.T) {
	for _, s := range sources(t) {
		ast.Inspect(s.file, func(n ast.Node) bool {
			if g, ok := n.(*ast.GoStmt); ok {
				t.Errorf("%s: a goroutine", s.fset.Position(g.Pos()))
			}
			return true
		})
	}
}

// No line for the compiler, no build tag.
func TestNoDirectives(t *testing.T) {
	for _, s := range sources(t) {
		for _, group := range s.file.Comments {
			for _, c := range group.List {
				if strings.HasPrefix(c.Text, "//go:") || strings.HasPrefix(c.Text, "// +build") || strings.HasPrefix(c.Text, "//line") {
					t.Errorf("%s: %s", s.fset.Position(c.Pos()), c.Text)
				}
			}
		}
	}
}

// Variables of packages have a value that is written out, or are errors made by errors.New.
func TestPackageVariables(t *testing.T) {
	for _, s := range sources(t) {
		for _, d := range s.file.Decls {
			g, ok := d.(*ast.GenDecl)
			if !ok || g.Tok != token.VAR {
				continue
			}
			for _, spec := range g.Specs {
				v := spec.(*ast.ValueSpec)
				if len(v.Values) != len(v.Names) || slices.ContainsFunc(v.Values, isWorkedOut) {
					t.Errorf("%s: %s has no value that is written out", s.fset.Position(v.Pos()), v.Names[0].Name)
				}
			}
		}
	}
}

// isWorkedOut tells whether a value has a call in it (but errors.New), a function, a map or a pointer.
func isWorkedOut(value ast.Expr) bool {
	out := false
	ast.Inspect(value, func(n ast.Node) bool {
		switch x := n.(type) {
		case *ast.CallExpr:
			f, ok := x.Fun.(*ast.SelectorExpr)
			out = out || !ok || f.Sel.Name != "New"
		case *ast.FuncLit, *ast.MapType:
			out = true
		case *ast.UnaryExpr:
			out = out || x.Op == token.AND
		}
		return true
	})
	return out
}

// Functions are short.
func TestShortFunctions(t *testing.T) {
	const most = 65 // "some 60 lines"
	for _, s := range sources(t) {
		for _, d := range s.file.Decls {
			f, ok := d.(*ast.FuncDecl)
			if !ok {
				continue
			}
			if n := s.fset.Position(f.End()).Line - s.fset.Position(f.Pos()).Line + 1; n > most {
				t.Errorf("%s: %s has %d lines", s.path, f.Name.Name, n)
			}
		}
	}
}

// The files are laid out as gofmt lays them.
func TestLayout(t *testing.T) {
	for _, s := range sources(t) {
		want, err := format.Source(s.text)
		if err != nil {
			t.Fatal(err)
		}
		if !bytes.Equal(s.text, want) {
			t.Errorf("%s is not laid out as gofmt lays it", s.path)
		}
	}
}
