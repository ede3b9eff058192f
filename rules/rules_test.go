package rules

import (
	"bytes"
	"go/ast"
	"go/format"
	"go/parser"
	"go/token"
	"os"
	"path/filepath"
	"slices"
	"strconv"
	"strings"
	"testing"

	"tidewrack/api"
)

const (
	module       = "tidewrack"
	longFunction = 60
)

// layers are all packages with a chapter, the lowest first, behind package api, which all may use.
var layers = []string{
	"api", "num", "sum", "gram", "parts", "glyph", "wide", "seq", "style", "row", "grid", "screen", "book", "spans", "cache",
	"flow", "snap", "delta", "model", "sender", "taker", "fetch", "server", "client", "view", "net", "session", "line", "script",
}

var library = []string{
	"bytes", "cmp", "container/heap", "errors", "iter", "maps", "math", "math/bits", "slices", "sort", "strconv", "strings",
	"sync", "sync/atomic", "unicode", "unicode/utf8",
}

// narrow are those of the library of which only some names may be used.
var narrow = map[string][]string{
	"iter": {"Seq", "Seq2"},
	"sync": {"Mutex", "RWMutex", "WaitGroup", "Once"},
}

type source struct {
	layer, path string
	text        []byte
	file        *ast.File
	set         *token.FileSet
}

// sources are the program's own Go files; those of tests may use all of the language.
func sources(t *testing.T) []source {
	var l []source
	for _, layer := range layers {
		paths, err := filepath.Glob(filepath.Join("..", layer, "*"))
		if err != nil || len(paths) == 0 {
			t.Fatalf("%s: no files, %v", layer, err)
		}
		for _, path := range paths {
			if strings.HasSuffix(path, "_test.go") {
				continue
			}
			text, err := os.ReadFile(path)
			if err != nil || !strings.HasSuffix(path, ".go") {
				t.Fatalf("%s: no Go file, %v", path, err)
			}
			set := token.NewFileSet()
			file, err := parser.ParseFile(set, path, text, parser.ParseComments)
			if err != nil {
				t.Fatal(err)
			}
			l = append(l, source{layer, path, text, file, set})
		}
	}
	return l
}

// mayImport: a layer imports the library's few packages, and of the project only what lies below it.
func mayImport(layer, path string) bool {
	below, ours := strings.CutPrefix(path, module+"/")
	if !ours {
		return slices.Contains(library, path)
	}
	at := slices.Index(layers, below)
	// A package beside the layers is the project's own business.
	return at < slices.Index(layers, layer)
}

func TestImports(t *testing.T) {
	for _, s := range sources(t) {
		for _, i := range s.file.Imports {
			path, err := strconv.Unquote(i.Path.Value)
			renamed := i.Name != nil && narrow[path] != nil
			if err != nil || !mayImport(s.layer, path) || renamed {
				t.Errorf("%s imports %s", s.path, i.Path.Value)
			}
		}
		ast.Inspect(s.file, func(n ast.Node) bool {
			x, ok := n.(*ast.SelectorExpr)
			if !ok {
				return true
			}
			if from, ok := x.X.(*ast.Ident); ok && narrow[from.Name] != nil && !slices.Contains(narrow[from.Name], x.Sel.Name) {
				t.Errorf("%s uses %s.%s", s.path, from.Name, x.Sel.Name)
			}
			return true
		})
	}
}

func TestLayout(t *testing.T) {
	for _, s := range sources(t) {
		if want, err := format.Source(s.text); err != nil || !bytes.Equal(want, s.text) {
			t.Errorf("%s isn't laid out by gofmt", s.path)
		}
		for _, g := range s.file.Comments {
			for _, c := range g.List {
				if strings.HasPrefix(c.Text, "//go:") || strings.HasPrefix(c.Text, "// +build") {
					t.Errorf("%s: %s", s.path, c.Text)
				}
			}
		}
		for _, d := range s.file.Decls {
			if f, ok := d.(*ast.FuncDecl); ok {
				if n := s.set.Position(f.End()).Line - s.set.Position(f.Pos()).Line + 1; n > longFunction {
					t.Errorf("%s: %s has %d lines", s.path, f.Name.Name, n)
				}
			}
		}
	}
}

// written: at package level stand values that are written out, and errors.
func written(e ast.Expr) bool {
	switch x := e.(type) {
	case *ast.CompositeLit:
		_, isMap := x.Type.(*ast.MapType)
		return !isMap
	case *ast.CallExpr:
		f, ok := x.Fun.(*ast.SelectorExpr)
		if !ok {
			return false
		}
		from, ok := f.X.(*ast.Ident)
		return ok && from.Name == "errors" && f.Sel.Name == "New"
	}
	return false
}

func TestPackageLevel(t *testing.T) {
	for _, s := range sources(t) {
		for _, d := range s.file.Decls {
			g, ok := d.(*ast.GenDecl)
			if !ok || g.Tok != token.VAR {
				continue
			}
			for _, spec := range g.Specs {
				v := spec.(*ast.ValueSpec)
				plain := len(v.Values) == len(v.Names)
				for _, e := range v.Values {
					plain = plain && written(e)
				}
				if !plain {
					t.Errorf("%s: %s isn't written out", s.path, v.Names[0].Name)
				}
			}
		}
	}
}

// The errors and limits that the document names have its numbers.
func TestGiven(t *testing.T) {
	for want, e := range []api.Errno{
		api.OK, api.ErrForm, api.ErrEnd, api.ErrBig, api.ErrSum, api.ErrKind,
		api.ErrArg, api.ErrBase, api.ErrOld, api.ErrNone, api.ErrFull,
	} {
		if int(e) != want {
			t.Errorf("the error %d is %d", want, e)
		}
	}
	limits := []int{api.MaxSize, api.MaxLine, api.MaxGram, api.MaxText, api.MaxCache, api.MaxClock, api.MaxTicks}
	if !slices.Equal(limits, []int{1000, 1024, 8192, 1 << 20, 1 << 16, 1 << 40, 1 << 20}) {
		t.Errorf("limits: %d", limits)
	}
}
