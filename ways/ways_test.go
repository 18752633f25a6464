// Package ways tests that each layer leans on those of the language's ways that its chapter names.
package ways

import (
	"go/ast"
	"go/importer"
	"go/parser"
	"go/token"
	"go/types"
	"path/filepath"
	"strings"
	"testing"
)

// asked has, by package, the words of its chapter's section 'Ways'.
var asked = map[string][]string{
	"date":  {"array", "range-integer"},
	"week":  {"array", "range-integer"},
	"disk":  {"array", "copy", "variadic"},
	"log":   {"array", "copy"},
	"mask":  {"method"},
	"cal":   {"map", "struct-key", "closure"},
	"lex":   {"map", "struct-key"},
	"jdl":   {"map", "struct-key", "panic", "recover", "defer", "method-value", "generic-function"},
	"rule":  {"map", "struct-key"},
	"book":  {"map", "copy"},
	"cond":  {"map", "struct-key", "delete", "copy"},
	"expr":  {"map", "struct-key", "copy"},
	"pool":  {"interface", "type-switch", "map", "struct-key"},
	"need":  {"interface", "type-switch"},
	"when":  {"array", "array-compared", "range-integer"},
	"order": {"map", "struct-key", "range-integer"},
	"job":   {"iota", "struct-compared"},
	"plan":  {"map", "named-key", "embedding", "promoted"},
}

func TestWaysOfEachPackage(t *testing.T) {
	for name, words := range asked {
		got := waysOf(t, name)
		for _, word := range words {
			if !got[word] {
				t.Errorf("package %s has no %s", name, word)
			}
		}
	}
}

func waysOf(t *testing.T, name string) map[string]bool {
	t.Helper()
	set := token.NewFileSet()
	files := parse(t, set, name)
	info := &types.Info{Types: map[ast.Expr]types.TypeAndValue{}, Uses: map[*ast.Ident]types.Object{}, Selections: map[*ast.SelectorExpr]*types.Selection{}}
	config := types.Config{Importer: importer.ForCompiler(set, "source", nil)}
	if _, err := config.Check(name, set, files, info); err != nil {
		t.Fatal(err)
	}
	got := map[string]bool{}
	for _, f := range files {
		ast.Inspect(f, func(n ast.Node) bool {
			note(n, info, got)
			return true
		})
	}
	return got
}

func parse(t *testing.T, set *token.FileSet, name string) []*ast.File {
	t.Helper()
	paths, err := filepath.Glob(filepath.Join("..", name, "*.go"))
	if err != nil {
		t.Fatal(err)
	}
	var files []*ast.File
	for _, path := range paths {
		if strings.HasSuffix(path, "_test.go") {
			continue
		}
		f, err := parser.ParseFile(set, path, nil, 0)
		if err != nil {
			t.Fatal(err)
		}
		files = append(files, f)
	}
	return files
}

func note(n ast.Node, info *types.Info, got map[string]bool) {
	switch x := n.(type) {
	case *ast.ArrayType:
		if x.Len != nil {
			got["array"] = true
		}
	case *ast.BinaryExpr:
		if x.Op == token.EQL || x.Op == token.NEQ {
			noteCompared(info.Types[x.X].Type, got)
		}
	case *ast.Ellipsis:
		if x.Elt != nil {
			got["variadic"] = true
		}
	case *ast.FuncLit:
		got["closure"] = true
	case *ast.FuncDecl:
		if x.Recv != nil {
			got["method"] = true
		}
		if x.Type.TypeParams != nil {
			got["generic-function"] = true
		}
	case *ast.DeferStmt:
		got["defer"] = true
	case *ast.StructType:
		for _, f := range x.Fields.List {
			if len(f.Names) == 0 {
				got["embedding"] = true
			}
		}
	case *ast.SelectorExpr:
		if picked := info.Selections[x]; picked != nil && len(picked.Index()) > 1 {
			got["promoted"] = true
		}
	case *ast.InterfaceType:
		if len(x.Methods.List) > 0 {
			got["interface"] = true
		}
	case *ast.TypeSwitchStmt:
		got["type-switch"] = true
	case *ast.CallExpr:
		for _, arg := range x.Args {
			if isMethodValue(arg, info) {
				got["method-value"] = true
			}
		}
	case *ast.MapType:
		got["map"] = true
		noteKey(info.Types[x.Key].Type, got)
	case *ast.Ident:
		if b, ok := info.Uses[x].(*types.Builtin); ok {
			got[b.Name()] = true
		}
		if info.Uses[x] == types.Universe.Lookup("iota") {
			got["iota"] = true
		}
		if f, ok := info.Uses[x].(*types.Func); ok && f.FullName() == "maps.Copy" {
			got["copy"] = true
		}
	case *ast.RangeStmt:
		if b, ok := info.Types[x.X].Type.Underlying().(*types.Basic); ok && b.Info()&types.IsInteger != 0 {
			got["range-integer"] = true
		}
	}
}

// noteCompared notes what kind of thing is held against another one whole.
func noteCompared(t types.Type, got map[string]bool) {
	switch t.Underlying().(type) {
	case *types.Array:
		got["array-compared"] = true
	case *types.Struct:
		got["struct-compared"] = true
	}
}

// noteKey notes the keys of a map that are structs, or numbers of a type of their own.
func noteKey(t types.Type, got map[string]bool) {
	switch key := t.Underlying().(type) {
	case *types.Struct:
		got["struct-key"] = true
	case *types.Basic:
		if _, own := t.(*types.Named); own && key.Info()&types.IsInteger != 0 {
			got["named-key"] = true
		}
	}
}

// isMethodValue tells whether an argument is a method that is handed on, not called.
func isMethodValue(arg ast.Expr, info *types.Info) bool {
	x, ok := arg.(*ast.SelectorExpr)
	if !ok {
		return false
	}
	picked := info.Selections[x]
	return picked != nil && picked.Kind() == types.MethodVal
}
