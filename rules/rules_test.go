// Package rules holds the program's text against the rules of its language.
package rules

import (
	"bytes"
	"go/ast"
	"go/format"
	"go/parser"
	"go/token"
	"os"
	"path/filepath"
	"strconv"
	"strings"
	"testing"
)

const allowed = " bytes cmp container/heap errors iter maps math math/big math/bits slices sort strconv strings sync sync/atomic unicode unicode/utf8 "

const longestFunction = 60

// eachFile goes through all Go files of the program, tests left out.
func eachFile(t *testing.T, look func(path string, text []byte, fset *token.FileSet, f *ast.File)) {
	count := 0
	err := filepath.WalkDir("..", func(path string, d os.DirEntry, err error) error {
		if err != nil {
			return err
		}
		if d.IsDir() && (d.Name() == "sharedtests" || d.Name() == ".git") {
			return filepath.SkipDir
		}
		if d.IsDir() || !strings.HasSuffix(path, ".go") || strings.HasSuffix(path, "_test.go") {
			return nil
		}
		text, err := os.ReadFile(path)
		if err != nil {
			return err
		}
		fset := token.NewFileSet()
		f, err := parser.ParseFile(fset, path, text, parser.ParseComments)
		if err != nil {
			return err
		}
		count++
		look(path, text, fset, f)
		return nil
	})
	if err != nil {
		t.Fatal(err)
	}
	if count < 9 {
		t.Errorf("only %d files", count)
	}
}

func TestImports(t *testing.T) {
	eachFile(t, func(path string, _ []byte, _ *token.FileSet, f *ast.File) {
		for _, i := range f.Imports {
			name, _ := strconv.Unquote(i.Path.Value)
			if !strings.HasPrefix(name, "vigil/") && !strings.Contains(allowed, " "+name+" ") {
				t.Errorf("%s imports %s", path, name)
			}
		}
	})
}

func TestLayout(t *testing.T) {
	eachFile(t, func(path string, text []byte, _ *token.FileSet, _ *ast.File) {
		if good, err := format.Source(text); err != nil || !bytes.Equal(good, text) {
			t.Errorf("%s is not laid out as gofmt does", path)
		}
		if bytes.Contains(text, []byte("//go:")) || bytes.Contains(text, []byte("// +build")) {
			t.Errorf("%s has a line for the compiler", path)
		}
	})
}

func TestFunctionsAreShort(t *testing.T) {
	eachFile(t, func(path string, _ []byte, fset *token.FileSet, f *ast.File) {
		for _, d := range f.Decls {
			if lines := fset.Position(d.End()).Line - fset.Position(d.Pos()).Line; lines > longestFunction {
				t.Errorf("%s: a declaration of %d lines", path, lines)
			}
		}
	})
}

// TestPackageLevel: what stands there has a value that is written out, or is an
// error made of a text; a table is no map, and holds no functions.
func TestPackageLevel(t *testing.T) {
	eachFile(t, func(path string, _ []byte, _ *token.FileSet, f *ast.File) {
		for _, d := range f.Decls {
			g, ok := d.(*ast.GenDecl)
			if !ok || g.Tok != token.VAR {
				continue
			}
			for _, s := range g.Specs {
				v := s.(*ast.ValueSpec)
				if len(v.Values) != len(v.Names) {
					t.Errorf("%s: %s has no value of its own", path, v.Names[0].Name)
				}
				ast.Inspect(v, func(n ast.Node) bool {
					switch x := n.(type) {
					case *ast.MapType, *ast.FuncLit, *ast.FuncType:
						t.Errorf("%s: %s is or holds a map or a function", path, v.Names[0].Name)
					case *ast.CallExpr:
						if c, ok := x.Fun.(*ast.SelectorExpr); !ok || c.Sel.Name != "New" {
							t.Errorf("%s: %s is made by a call", path, v.Names[0].Name)
						}
					}
					return true
				})
			}
		}
	})
}
