package tests

import (
	"go/ast"
	"go/parser"
	"go/token"
	"path/filepath"
	"testing"
)

// functions are the program's functions and methods by name; methods of one
// name stand together.
func functions(t *testing.T) map[string][]*ast.FuncDecl {
	t.Helper()
	files, err := filepath.Glob("../impl/*.go")
	if err != nil || len(files) == 0 {
		t.Fatal("no program", err)
	}
	found := map[string][]*ast.FuncDecl{}
	for _, name := range files {
		file, err := parser.ParseFile(token.NewFileSet(), name, nil, 0)
		if err != nil {
			t.Fatal(err)
		}
		for _, d := range file.Decls {
			if f, ok := d.(*ast.FuncDecl); ok {
				found[f.Name.Name] = append(found[f.Name.Name], f)
			}
		}
	}
	return found
}

// namesIn are the names that stand in a piece of the program.
func namesIn(n ast.Node) map[string]bool {
	names := map[string]bool{}
	ast.Inspect(n, func(n ast.Node) bool {
		if name, ok := n.(*ast.Ident); ok {
			names[name.Name] = true
		}
		return true
	})
	return names
}

// reached are the names in all that the exported functions call.
func reached(t *testing.T) map[string]bool {
	t.Helper()
	all := functions(t)
	seen := map[string]bool{}
	var visit func(name string)
	visit = func(name string) {
		if seen[name] {
			return
		}
		seen[name] = true
		for _, f := range all[name] {
			for inner := range namesIn(f.Body) {
				visit(inner)
			}
		}
	}
	for name := range all {
		if ast.IsExported(name) {
			visit(name)
		}
	}
	return seen
}

// The tables of powers are filled by init alone, and read by what the exported
// functions reach.
func TestTables(t *testing.T) {
	seen := reached(t)
	for _, table := range []string{"powersOfTen", "powersOfTwo"} {
		if !seen[table] {
			t.Errorf("%s is read by no exported function", table)
		}
		for name, list := range functions(t) {
			for _, f := range list {
				if writes(f.Body, table) != (name == "init") {
					t.Errorf("%s: %s writes into %s, or init does not", f.Name.Name, name, table)
				}
			}
		}
	}
}

// writes says whether a table stands to the left of an assignment, or has its
// address taken.
func writes(body ast.Node, table string) bool {
	found := false
	ast.Inspect(body, func(n ast.Node) bool {
		switch x := n.(type) {
		case *ast.AssignStmt:
			for _, left := range x.Lhs {
				if index, ok := left.(*ast.IndexExpr); ok {
					left = index.X
				}
				if name, ok := left.(*ast.Ident); ok && name.Name == table {
					found = true
				}
			}
		case *ast.IncDecStmt:
			found = found || namesIn(x.X)[table]
		case *ast.UnaryExpr:
			found = found || x.Op == token.AND && namesIn(x.X)[table]
		}
		return true
	})
	return found
}
