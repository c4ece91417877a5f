package rules

import (
	"go/ast"
	"go/parser"
	"go/token"
	"os"
	"path/filepath"
	"slices"
	"strconv"
	"strings"
	"testing"
)

const module = "lantern"

// maxLines is how long a function may be.
const maxLines = 60

// layers are the packages of the map, each above those ahead of it.
func layers() []string {
	return strings.Fields("api text sha mac seal ip cidr url path header chunk http entity xml date feed json block log tuple kv cap vault guard net fetch due state serve stack world")
}

// library is what may be imported from outside of the project.
func library() []string {
	return strings.Fields("bytes cmp container/heap errors iter maps math math/bits slices sort strconv strings sync sync/atomic unicode unicode/utf8")
}

// source is a Go file of the program.
type source struct {
	name, pack string
	files      *token.FileSet
	tree       *ast.File
}

// folders are the project's packages, but the tests that .ci/run lays beside them.
func folders(t *testing.T) []string {
	t.Helper()
	all, err := os.ReadDir("..")
	if err != nil {
		t.Fatal(err)
	}
	var names []string
	for _, d := range all {
		if d.IsDir() && !strings.HasPrefix(d.Name(), ".") && d.Name() != "sharedtests" {
			names = append(names, d.Name())
		}
	}
	return names
}

// sources are the program's files, tests left out.
func sources(t *testing.T) []source {
	t.Helper()
	var all []source
	for _, pack := range folders(t) {
		names, err := filepath.Glob(filepath.Join("..", pack, "*.go"))
		if err != nil {
			t.Fatal(err)
		}
		for _, name := range names {
			if strings.HasSuffix(name, "_test.go") {
				continue
			}
			files := token.NewFileSet()
			tree, err := parser.ParseFile(files, name, nil, parser.ParseComments)
			if err != nil {
				t.Fatal(err)
			}
			all = append(all, source{name, pack, files, tree})
		}
	}
	return all
}

func TestEveryLayerStands(t *testing.T) {
	have := folders(t)
	for _, l := range layers() {
		if !slices.Contains(have, l) {
			t.Errorf("package %s is missing", l)
		}
	}
}

func TestFolderNames(t *testing.T) {
	for _, name := range folders(t) {
		if name == "form" || name == "try" || strings.HasPrefix(name, module) {
			t.Errorf("no package may be named %s", name)
		}
	}
}

func TestOnlyGoFiles(t *testing.T) {
	for _, pack := range folders(t) {
		files, err := os.ReadDir(filepath.Join("..", pack))
		if err != nil {
			t.Fatal(err)
		}
		for _, f := range files {
			if f.IsDir() || !strings.HasSuffix(f.Name(), ".go") {
				t.Errorf("%s/%s is no Go file", pack, f.Name())
			}
		}
	}
}

func TestImports(t *testing.T) {
	order, outside := layers(), library()
	for _, s := range sources(t) {
		for _, i := range s.tree.Imports {
			name, _ := strconv.Unquote(i.Path.Value)
			own, isOwn := strings.CutPrefix(name, module+"/")
			if !isOwn && !slices.Contains(outside, name) {
				t.Errorf("%s imports %s", s.name, name)
			}
			here, there := slices.Index(order, s.pack), slices.Index(order, own)
			if isOwn && here >= 0 && there >= here {
				t.Errorf("%s imports %s, which is not below it", s.name, name)
			}
		}
	}
}

func TestNoDirectives(t *testing.T) {
	for _, s := range sources(t) {
		for _, group := range s.tree.Comments {
			for _, c := range group.List {
				if strings.HasPrefix(c.Text, "//go:") || strings.HasPrefix(c.Text, "// +build") {
					t.Errorf("%s has the line %s", s.files.Position(c.Pos()), c.Text)
				}
			}
		}
	}
}

func TestSmallFunctions(t *testing.T) {
	for _, s := range sources(t) {
		for _, d := range s.tree.Decls {
			f, ok := d.(*ast.FuncDecl)
			if !ok {
				continue
			}
			from, to := s.files.Position(f.Pos()), s.files.Position(f.End())
			if n := to.Line - from.Line + 1; n > maxLines {
				t.Errorf("%s: %s has %d lines", from, f.Name.Name, n)
			}
		}
	}
}
