// Package rules holds no program: its tests look over how the layers' packages are built.
package rules

import (
	"go/ast"
	"go/parser"
	"go/token"
	"os"
	"path/filepath"
	"slices"
	"strconv"
	"strings"
	"testing"
)

const mostLines = 60 // of a function

// layers: the packages of the map, layer 1 first, each with those that it calls.
func layers() [][]string {
	l := [][]string{
		{"num", "api"},
		{"le", "api", "num"},
		{"leb", "api"},
		{"path", "api"},
		{"vmem", "api", "num"},
		{"vfs", "api", "path"},
		{"zip", "api", "le", "num"},
		{"head", "api", "le", "num"},
		{"dyn", "api", "head", "le"},
		{"syms", "api", "dyn", "head", "le"},
		{"vers", "api", "dyn", "head", "le"},
		{"rels", "api", "le"},
		{"relr", "api", "le", "num"},
		{"aps", "api", "leb"},
		{"apply", "api"},
		{"image", "api", "head", "dyn", "syms", "vers", "rels", "relr", "aps", "apply"},
		{"maker", "api", "le", "num", "syms", "rels", "relr", "aps", "apply"},
		{"conf", "api", "num", "path"},
		{"nsconf", "api", "conf", "le", "path"},
		{"policy", "api", "path"},
		{"search", "api", "path", "policy", "vfs", "zip"},
		{"table", "api", "search"},
		{"scope", "api", "image", "syms", "table"},
		{"load", "api", "head", "image", "policy", "search", "table", "vfs", "vmem"},
		{"bind", "api", "apply", "num", "scope", "table", "vmem"},
		{"order", "table"},
		{"linker", "api"},
		{"script", "api", "nsconf", "num", "path"},
		{"audit", "api", "apply", "head", "le", "linker", "num", "policy", "vmem"},
		{"run", "api"},
		{"explain", "api", "image", "load", "num", "path", "policy", "search", "table"},
		{"dump", "api", "apply", "num"},
	}
	for i, row := range l {
		for _, below := range l[:i] {
			if row[0] == "run" || row[0] == "linker" && below[0] != "maker" {
				l[i] = append(l[i], below[0])
			}
		}
	}
	return l
}

// packages: the layers', and those beside them that the program or its tests call.
func packages() [][]string { return append(layers(), []string{"rows"}, []string{"mold", "api"}) }

// library: the packages of Go's library that the program may use.
func library() []string {
	return []string{"bytes", "cmp", "container/heap", "errors", "iter", "maps", "math", "math/bits", "slices", "sort", "strconv", "strings", "sync", "sync/atomic", "unicode", "unicode/utf8"}
}

// sources: the Go files of a package that are no tests.
func sources(t *testing.T, name string) []string {
	t.Helper()
	all, err := os.ReadDir(filepath.Join("..", name))
	if err != nil {
		t.Fatal(err)
	}
	var l []string
	for _, entry := range all {
		file := filepath.Join("..", name, entry.Name())
		if entry.IsDir() || filepath.Ext(file) != ".go" {
			t.Errorf("%s is no Go file", file)
		} else if !strings.HasSuffix(file, "_test.go") {
			l = append(l, file)
		}
	}
	if len(l) == 0 {
		t.Errorf("%s has no Go files", name)
	}
	return l
}

// TestImports: each layer imports just those that the map says, and of the library what the language has.
func TestImports(t *testing.T) {
	for _, row := range packages() {
		for _, file := range sources(t, row[0]) {
			tree, err := parser.ParseFile(token.NewFileSet(), file, nil, parser.ImportsOnly)
			if err != nil {
				t.Fatal(err)
			}
			for _, imported := range tree.Imports {
				name, err := strconv.Unquote(imported.Path.Value)
				if err != nil {
					t.Fatal(err)
				}
				own, isOwn := strings.CutPrefix(name, "messuage/")
				if isOwn && !slices.Contains(row[1:], own) || !isOwn && !slices.Contains(library(), name) {
					t.Errorf("%s imports %s", file, name)
				}
			}
		}
	}
}

// TestFunctionsAreShort: no function has too many lines; no remark is one for the compiler.
func TestFunctionsAreShort(t *testing.T) {
	for _, row := range packages() {
		for _, file := range sources(t, row[0]) {
			set := token.NewFileSet()
			tree, err := parser.ParseFile(set, file, nil, parser.ParseComments)
			if err != nil {
				t.Fatal(err)
			}
			for _, group := range tree.Comments {
				for _, remark := range group.List {
					if strings.HasPrefix(remark.Text, "//go:") || strings.HasPrefix(remark.Text, "// +build") {
						t.Errorf("%s: %s", file, remark.Text)
					}
				}
			}
			for _, made := range tree.Decls {
				function, ok := made.(*ast.FuncDecl)
				if !ok {
					continue
				}
				lines := set.Position(function.End()).Line - set.Position(function.Pos()).Line + 1
				if lines > mostLines {
					t.Errorf("%s: %s has %d lines", file, function.Name.Name, lines)
				}
			}
		}
	}
}
