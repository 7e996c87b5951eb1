// Package rules holds the tests of how the program is written: see shared/LANGUAGE.md, and the map of shared/DOC.md.
package rules

import (
	"bytes"
	"go/ast"
	"go/format"
	"go/parser"
	"go/token"
	"go/types"
	"os"
	"path/filepath"
	"slices"
	"strconv"
	"strings"
	"testing"
)

// calls are the packages, and the layers that each may call, beside api and walk; chance is for tests alone.
var calls = map[string]string{
	"api":    "",
	"chance": "",
	"walk":   "",
	"crc":    "",
	"wire":   "",
	"frame":  "crc wire",
	"vfs":    "frame",
	"text":   "",
	"lang":   "",
	"gram":   "",
	"set":    "",
	"lex":    "set",
	"syntax": "set lex",
	"tree":   "",
	"span":   "set tree",
	"prog":   "tree",
	"vm":     "set span prog",
	"each":   "prog vm",
	"query":  "",
	"know":   "query",
	"derive": "syntax tree prog query know",
	"post":   "wire gram",
	"cursor": "",
	"near":   "gram post cursor",
	"doc":    "crc wire lang",
	"shard":  "wire frame text post doc",
	"pick":   "cursor shard",
	"mani":   "wire frame",
	"batch":  "lang doc",
	"merge":  "doc batch",
	"store":  "crc vfs shard mani batch merge",
	"hit":    "text prog each",
	"seek":   "vm derive doc pick store hit",
	"plight": "vfs batch store seek",
	"desk":   "query derive plight",
}

const library = "bytes cmp container/heap errors iter maps math math/bits slices sort strconv strings sync sync/atomic unicode unicode/utf8"

const mostLines = 60

// source is a file of the program, as bytes and as a tree.
type source struct {
	path  string
	bytes []byte
	set   *token.FileSet
	tree  *ast.File
}

// sources are a layer's files but its tests.
func sources(t *testing.T, layer string) []source {
	t.Helper()
	entries, err := os.ReadDir(filepath.Join("..", layer))
	if err != nil {
		t.Fatal(err)
	}
	var out []source
	for _, e := range entries {
		path := filepath.Join("..", layer, e.Name())
		if !strings.HasSuffix(path, ".go") {
			t.Errorf("%s: no Go file", path)
			continue
		}
		if strings.HasSuffix(path, "_test.go") {
			continue
		}
		b, err := os.ReadFile(path)
		if err != nil {
			t.Fatal(err)
		}
		set := token.NewFileSet()
		tree, err := parser.ParseFile(set, path, b, parser.ParseComments)
		if err != nil {
			t.Fatal(err)
		}
		out = append(out, source{path, b, set, tree})
	}
	if len(out) == 0 {
		t.Errorf("%s: no files", layer)
	}
	return out
}

// may says whether a layer may import a path.
func may(layer, path string) bool {
	own, ok := strings.CutPrefix(path, "mudlark/")
	if !ok {
		return slices.Contains(strings.Fields(library), path)
	}
	_, known := calls[own]
	return !known || own == "api" || own == "walk" || slices.Contains(strings.Fields(calls[layer]), own)
}

func TestImports(t *testing.T) {
	for layer := range calls {
		for _, s := range sources(t, layer) {
			for _, i := range s.tree.Imports {
				path, _ := strconv.Unquote(i.Path.Value)
				if !may(layer, path) {
					t.Errorf("%s: imports %s", s.path, path)
				}
			}
		}
	}
}

func TestLayout(t *testing.T) {
	for layer := range calls {
		for _, s := range sources(t, layer) {
			if b, err := format.Source(s.bytes); err != nil || !bytes.Equal(b, s.bytes) {
				t.Errorf("%s: not laid out by gofmt (%v)", s.path, err)
			}
		}
	}
}

func TestFunctionsAreSmall(t *testing.T) {
	for layer := range calls {
		for _, s := range sources(t, layer) {
			for _, d := range s.tree.Decls {
				f, ok := d.(*ast.FuncDecl)
				if !ok {
					continue
				}
				if n := s.set.Position(f.End()).Line - s.set.Position(f.Pos()).Line + 1; n > mostLines {
					t.Errorf("%s: %s has %d lines", s.path, f.Name.Name, n)
				}
			}
		}
	}
}

func TestNothingForbidden(t *testing.T) {
	for layer := range calls {
		for _, s := range sources(t, layer) {
			for _, g := range s.tree.Comments {
				for _, c := range g.List {
					if strings.HasPrefix(c.Text, "//go:") || strings.HasPrefix(c.Text, "// +build") {
						t.Errorf("%s: %s", s.path, c.Text)
					}
				}
			}
			ast.Inspect(s.tree, func(n ast.Node) bool {
				if word := forbidden(n); word != "" {
					t.Errorf("%s: %s", s.set.Position(n.Pos()), word)
				}
				return true
			})
		}
	}
}

// At package level stand no variables but such as are written out: tables of literals, errors of one text.
func TestPackageLevel(t *testing.T) {
	for layer := range calls {
		for _, s := range sources(t, layer) {
			for _, d := range s.tree.Decls {
				g, ok := d.(*ast.GenDecl)
				if !ok || g.Tok != token.VAR {
					continue
				}
				for _, spec := range g.Specs {
					v := spec.(*ast.ValueSpec)
					out := slices.DeleteFunc(slices.Clone(v.Values), func(e ast.Expr) bool { return !writtenOut(e) })
					if len(out) != len(v.Names) {
						t.Errorf("%s: %s is not written out", s.set.Position(v.Pos()), v.Names[0].Name)
					}
				}
			}
		}
	}
}

// writtenOut says whether a value has no call (but errors.New), no function, no map and no pointer in it.
func writtenOut(value ast.Expr) bool {
	ok := true
	ast.Inspect(value, func(n ast.Node) bool {
		switch x := n.(type) {
		case *ast.CallExpr:
			ok = ok && types.ExprString(x.Fun) == "errors.New"
		case *ast.UnaryExpr:
			ok = ok && x.Op != token.AND
		case *ast.FuncLit, *ast.MapType:
			ok = false
		}
		return ok
	})
	return ok
}

// forbidden is what stands there of the words that the program may not use, or nothing.
func forbidden(n ast.Node) string {
	switch x := n.(type) {
	case *ast.CallExpr:
		if f, ok := x.Fun.(*ast.Ident); ok && (f.Name == "print" || f.Name == "println") {
			return f.Name
		}
	case *ast.SelectorExpr:
		if p, ok := x.X.(*ast.Ident); ok && p.Name == "iter" && strings.HasPrefix(x.Sel.Name, "Pull") {
			return "iter." + x.Sel.Name
		}
	}
	return ""
}
