package rules

import (
	"go/ast"
	"go/token"
	"testing"
)

// maxTable is how many elements a table at package level may have, of the smallest kind.
const maxTable = 250

// TestPackageVariables: at package level stand, beside constants, errors made of one text and tables that are written out.
func TestPackageVariables(t *testing.T) {
	for _, s := range sources(t) {
		for _, v := range packageVariables(s.tree) {
			for i, name := range v.Names {
				if i >= len(v.Values) || !isTable(v.Values[i]) && !isNewError(v.Values[i]) {
					t.Errorf("%s: %s is neither a table that is written out nor an error", s.files.Position(v.Pos()), name.Name)
				}
			}
		}
	}
}

func TestSmallTables(t *testing.T) {
	for _, s := range sources(t) {
		for _, v := range packageVariables(s.tree) {
			n := 0
			ast.Inspect(v, func(x ast.Node) bool {
				if l, ok := x.(*ast.CompositeLit); ok {
					n += len(l.Elts)
				}
				return true
			})
			if n > maxTable {
				t.Errorf("%s: a table of %d elements", s.files.Position(v.Pos()), n)
			}
		}
	}
}

// TestTablesStay: no table is assigned to, counted up, or has its address or a piece of it taken, in any file of its package.
func TestTablesStay(t *testing.T) {
	type table struct{ pack, name string }
	tables := map[table]bool{}
	specs := map[any]bool{}
	all := sources(t)
	for _, s := range all {
		for _, v := range packageVariables(s.tree) {
			specs[v] = true
			for _, name := range v.Names {
				tables[table{s.pack, name.Name}] = true
			}
		}
	}
	for _, s := range all {
		for _, name := range turnedNames(s.tree) {
			// A name that this file doesn't declare is the package's.
			of := name.Obj == nil || specs[name.Obj.Decl]
			if of && tables[table{s.pack, name.Name}] {
				t.Errorf("%s: %s is turned", s.files.Position(name.Pos()), name.Name)
			}
		}
	}
}

func packageVariables(f *ast.File) []*ast.ValueSpec {
	var all []*ast.ValueSpec
	for _, d := range f.Decls {
		g, ok := d.(*ast.GenDecl)
		if !ok || g.Tok != token.VAR {
			continue
		}
		for _, s := range g.Specs {
			all = append(all, s.(*ast.ValueSpec))
		}
	}
	return all
}

// isTable tells whether all of a value stands where it is declared, and none of it is a call, a function, a map or a pointer.
func isTable(e ast.Expr) bool {
	if _, ok := e.(*ast.CompositeLit); !ok {
		return false
	}
	plain := true
	ast.Inspect(e, func(n ast.Node) bool {
		switch x := n.(type) {
		case *ast.CallExpr, *ast.FuncLit, *ast.FuncType, *ast.MapType, *ast.StarExpr, *ast.InterfaceType:
			plain = false
		case *ast.UnaryExpr:
			plain = plain && x.Op != token.AND
		case *ast.BasicLit:
			plain = plain && x.Kind != token.FLOAT && x.Kind != token.IMAG
		}
		return plain
	})
	return plain
}

func isNewError(e ast.Expr) bool {
	c, ok := e.(*ast.CallExpr)
	if !ok || len(c.Args) != 1 {
		return false
	}
	f, ok := c.Fun.(*ast.SelectorExpr)
	if !ok || f.Sel.Name != "New" {
		return false
	}
	pack, ok := f.X.(*ast.Ident)
	return ok && pack.Name == "errors"
}

// turnedNames are the names at the root of what is assigned to, counted up, sliced, or has its address taken.
func turnedNames(f *ast.File) []*ast.Ident {
	var names []*ast.Ident
	add := func(e ast.Expr) {
		if name := rootName(e); name != nil {
			names = append(names, name)
		}
	}
	ast.Inspect(f, func(n ast.Node) bool {
		switch x := n.(type) {
		case *ast.AssignStmt:
			for _, e := range x.Lhs {
				add(e)
			}
		case *ast.IncDecStmt:
			add(x.X)
		case *ast.SliceExpr:
			add(x.X)
		case *ast.UnaryExpr:
			if x.Op == token.AND {
				add(x.X)
			}
		}
		return true
	})
	return names
}

func rootName(e ast.Expr) *ast.Ident {
	for {
		switch x := e.(type) {
		case *ast.Ident:
			return x
		case *ast.IndexExpr:
			e = x.X
		case *ast.SelectorExpr:
			e = x.X
		case *ast.ParenExpr:
			e = x.X
		default:
			return nil
		}
	}
}
