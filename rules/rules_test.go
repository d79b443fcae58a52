// Package rules looks at the program's own files: what every layer may lean on, whatever it does.
package rules

import (
	"bytes"
	"go/ast"
	"go/format"
	"go/parser"
	"go/token"
	"os"
	"path/filepath"
	"reflect"
	"slices"
	"strconv"
	"strings"
	"testing"

	"caduceus/api"
	"caduceus/broker"
	"caduceus/hermes"
	"caduceus/index"
	"caduceus/queue"
	"caduceus/session"
	"caduceus/store"
	"caduceus/table"
)

const module = "caduceus/"

// mostLines is how long a function is at most.
const mostLines = 60

// layers, the lowest first: each leans on lower ones alone.
var layers = []string{"api", "quic", "name", "value", "schema", "forest", "event", "lex", "filter", "cover", "ring", "wire", "net", "link", "view", "index", "table", "store", "queue", "session", "broker", "model", "hermes", "tale", "audit"}

// library: what the program may take of Go's own.
var library = []string{"bytes", "cmp", "container/heap", "errors", "iter", "maps", "math", "math/bits", "slices", "sort", "strconv", "strings", "sync", "sync/atomic", "unicode", "unicode/utf8"}

type source struct {
	layer string
	path  string
	text  []byte
	tree  *ast.File
	set   *token.FileSet
}

// sources: the files of all layers, without their tests.
func sources(t *testing.T) []source {
	var out []source
	for _, layer := range layers {
		paths, err := filepath.Glob(filepath.Join("..", layer, "*"))
		if err != nil || len(paths) == 0 {
			t.Fatalf("layer %s has no files", layer)
		}
		for _, path := range paths {
			if strings.HasSuffix(path, "_test.go") {
				continue
			}
			if !strings.HasSuffix(path, ".go") {
				t.Errorf("%s is no Go file", path)
				continue
			}
			out = append(out, read(t, layer, path))
		}
	}
	return out
}

func read(t *testing.T, layer, path string) source {
	text, err := os.ReadFile(path)
	if err != nil {
		t.Fatal(err)
	}
	set := token.NewFileSet()
	tree, err := parser.ParseFile(set, path, text, parser.ParseComments)
	if err != nil {
		t.Fatal(err)
	}
	return source{layer, path, text, tree, set}
}

func TestImports(t *testing.T) {
	for _, f := range sources(t) {
		for _, x := range f.tree.Imports {
			path, _ := strconv.Unquote(x.Path.Value)
			if own, ok := strings.CutPrefix(path, module); ok {
				if at := slices.Index(layers, own); at >= slices.Index(layers, f.layer) {
					t.Errorf("%s leans on %s, which is no lower layer", f.path, path)
				}
			} else if !slices.Contains(library, path) {
				t.Errorf("%s imports %s", f.path, path)
			}
		}
	}
}

func TestLayout(t *testing.T) {
	for _, f := range sources(t) {
		if out, err := format.Source(f.text); err != nil || !bytes.Equal(out, f.text) {
			t.Errorf("%s is not of gofmt's layout", f.path)
		}
		if bytes.Contains(f.text, []byte("//go:")) {
			t.Errorf("%s has a //go: line", f.path)
		}
		for _, d := range f.tree.Decls {
			x, ok := d.(*ast.FuncDecl)
			if !ok {
				continue
			}
			if lines := f.set.Position(x.End()).Line - f.set.Position(x.Pos()).Line + 1; lines > mostLines {
				t.Errorf("%s: %s has %d lines", f.path, x.Name.Name, lines)
			}
		}
	}
}

// The ways of layer 1: a switch that falls through.
func TestQuicFallsThrough(t *testing.T) {
	if !has(t, "quic", func(n ast.Node, _ *ast.FuncDecl) bool {
		x, ok := n.(*ast.BranchStmt)
		return ok && x.Tok == token.FALLTHROUGH
	}) {
		t.Errorf("quic has no switch that falls through")
	}
}

// The ways of layers 2, 3 and 7: a text gone through by its runes.
func TestTextsAreGoneThroughByRunes(t *testing.T) {
	for _, layer := range []string{"name", "value", "lex"} {
		if !has(t, layer, func(n ast.Node, f *ast.FuncDecl) bool {
			x, ok := n.(*ast.RangeStmt)
			if !ok {
				return false
			}
			text, ok := x.X.(*ast.Ident)
			return ok && x.Value != nil && takesText(f, text.Name)
		}) {
			t.Errorf("%s goes through no text by its runes", layer)
		}
	}
}

// The ways of layers 3 and 8: what comes is told by its type.
func TestTypesTell(t *testing.T) {
	for _, layer := range []string{"value", "filter"} {
		if !has(t, layer, func(n ast.Node, _ *ast.FuncDecl) bool {
			_, ok := n.(*ast.TypeSwitchStmt)
			return ok
		}) {
			t.Errorf("%s tells nothing by its type", layer)
		}
	}
}

// The ways of layer 8: pieces are an interface's values, and asserted.
func TestFilterAssertsPieces(t *testing.T) {
	asserted := has(t, "filter", func(n ast.Node, _ *ast.FuncDecl) bool {
		x, ok := n.(*ast.TypeAssertExpr)
		return ok && x.Type != nil
	})
	stands := false
	for _, f := range sources(t) {
		ast.Inspect(f.tree, func(n ast.Node) bool {
			x, ok := n.(*ast.InterfaceType)
			stands = stands || ok && f.layer == "filter" && x.Methods.NumFields() > 0
			return true
		})
	}
	if !asserted || !stands {
		t.Errorf("filter asserts nothing (%v), or has no interface (%v)", asserted, stands)
	}
}

// The ways of layer 4: the words of kinds stand in an array by kinds that are counted on.
func TestSchemaCountsKindsOn(t *testing.T) {
	var counted, stand bool
	for _, f := range sources(t) {
		if f.layer != "schema" {
			continue
		}
		ast.Inspect(f.tree, func(n ast.Node) bool {
			switch x := n.(type) {
			case *ast.Ident:
				counted = counted || x.Name == "iota"
			case *ast.ArrayType:
				stand = stand || x.Len != nil
			}
			return true
		})
	}
	if !counted || !stand {
		t.Errorf("schema counts no kinds on (%v), or has no array of their words (%v)", counted, stand)
	}
}

// The ways of layers 5, 6 and 10: loops that a label names, and that are left by it.
func TestLoopsAreNamed(t *testing.T) {
	for _, layer := range []string{"forest", "event", "ring"} {
		if !has(t, layer, func(n ast.Node, _ *ast.FuncDecl) bool {
			x, ok := n.(*ast.BranchStmt)
			return ok && x.Label != nil && x.Tok != token.GOTO
		}) {
			t.Errorf("%s leaves no loop by a label", layer)
		}
	}
}

// The ways of layer 9: a want is made by methods that are handed on.
func TestCoverHandsMethodsOn(t *testing.T) {
	methods := map[string]int{}
	has(t, "cover", func(n ast.Node, f *ast.FuncDecl) bool {
		if f.Recv != nil {
			methods[f.Name.Name]++
		}
		return false
	})
	if !has(t, "cover", func(n ast.Node, f *ast.FuncDecl) bool {
		x, ok := n.(*ast.SelectorExpr)
		return ok && methods[x.Sel.Name] > 0 && !calls(f, x)
	}) {
		t.Errorf("cover hands no method on")
	}
}

// The ways of layers 11 and 12: parts by kinds, and rows by nodes, stand in arrays.
func TestArraysStand(t *testing.T) {
	parts := func(x *ast.CompositeLit) bool {
		kind, ok := x.Type.(*ast.ArrayType)
		return ok && kind.Len != nil && len(x.Elts) > 0
	}
	ofArrays := func(x *ast.ArrayType) bool {
		inner, ok := x.Elt.(*ast.ArrayType)
		return ok && x.Len != nil && inner.Len != nil
	}
	var byKinds, byNodes bool
	for _, f := range sources(t) {
		ast.Inspect(f.tree, func(n ast.Node) bool {
			switch x := n.(type) {
			case *ast.CompositeLit:
				byKinds = byKinds || f.layer == "wire" && parts(x)
			case *ast.ArrayType:
				byNodes = byNodes || f.layer == "net" && ofArrays(x)
			}
			return true
		})
	}
	if !byKinds || !byNodes {
		t.Errorf("wire has no array by kinds (%v), or net none of arrays (%v)", byKinds, byNodes)
	}
}

// The ways of layer 12: a row is cut with three indices.
func TestNetCutsRows(t *testing.T) {
	if !has(t, "net", func(n ast.Node, _ *ast.FuncDecl) bool {
		x, ok := n.(*ast.SliceExpr)
		return ok && x.Slice3
	}) {
		t.Errorf("net cuts no row with three indices")
	}
}

// The ways of layer 14: members that are up are yielded by a function, and gone through by it.
func TestViewYields(t *testing.T) {
	yields := map[string]int{}
	has(t, "view", func(n ast.Node, f *ast.FuncDecl) bool {
		x, ok := n.(*ast.CallExpr)
		if ok {
			name, _ := x.Fun.(*ast.Ident)
			if name != nil && name.Name == "yield" {
				yields[f.Name.Name]++
			}
		}
		return false
	})
	if !has(t, "view", func(n ast.Node, _ *ast.FuncDecl) bool {
		x, ok := n.(*ast.RangeStmt)
		if !ok {
			return false
		}
		call, ok := x.X.(*ast.CallExpr)
		if !ok {
			return false
		}
		name, ok := call.Fun.(*ast.Ident)
		return ok && yields[name.Name] > 0
	}) {
		t.Errorf("view goes through nothing that a function yields (%v)", yields)
	}
}

// The ways of layer 15: predicates stand in a map by name, and in one by name and value, a struct.
func TestIndexKeepsPredicatesByStructs(t *testing.T) {
	x := reflect.TypeFor[index.Index]()
	var kinds []reflect.Kind
	for i := range x.NumField() {
		if kind := x.Field(i).Type; kind.Kind() == reflect.Map {
			kinds = append(kinds, kind.Key().Kind())
		}
	}
	if !slices.Contains(kinds, reflect.String) || !slices.Contains(kinds, reflect.Struct) {
		t.Errorf("index keeps maps by %v", kinds)
	}
}

// The ways of layers 13, 15, 16 and 18: what came early, predicates, rows, and counts stand in maps, and are deleted from them.
func TestMapsAreDeletedFrom(t *testing.T) {
	for _, layer := range []string{"link", "index", "table", "queue"} {
		stands := false
		for _, f := range sources(t) {
			ast.Inspect(f.tree, func(n ast.Node) bool {
				x, ok := n.(*ast.Field)
				if ok && f.layer == layer {
					_, ok = x.Type.(*ast.MapType)
					stands = stands || ok
				}
				return true
			})
		}
		if deleted := hasCall(t, layer, "delete"); !stands || !deleted {
			t.Errorf("%s keeps no map (%v), or deletes nothing from it (%v)", layer, stands, deleted)
		}
	}
}

// fields are the types of a struct's fields.
func fields(x reflect.Type) (out []reflect.Type) {
	for i := range x.NumField() {
		out = append(out, x.Field(i).Type)
	}
	return out
}

// The ways of layer 16: rows stand in a map of maps, that is cleared.
func TestTableKeepsMapsOfMaps(t *testing.T) {
	if !slices.ContainsFunc(fields(reflect.TypeFor[table.Table]()), func(x reflect.Type) bool {
		return x.Kind() == reflect.Map && x.Elem().Kind() == reflect.Map
	}) {
		t.Errorf("table keeps no map of maps")
	}
	if !hasCall(t, "table", "clear") {
		t.Errorf("table clears nothing")
	}
}

// The ways of layer 17: a type is changed by a pointer in a map; nodes that are waited for stand in an array of flags.
func TestStoreKeepsPointersToFlags(t *testing.T) {
	if !slices.ContainsFunc(fields(reflect.TypeFor[store.Store]()), func(x reflect.Type) bool {
		return x.Kind() == reflect.Map && x.Elem().Kind() == reflect.Pointer && slices.ContainsFunc(fields(x.Elem().Elem()), func(x reflect.Type) bool {
			return x.Kind() == reflect.Array && x.Elem().Kind() == reflect.Bool
		})
	}) {
		t.Errorf("store keeps no map of pointers to what has an array of flags")
	}
}

// The ways of layer 19: sessions embed their queue, and offer by its methods as their own.
func TestSessionsEmbedTheirQueue(t *testing.T) {
	embeds := func(x reflect.Type) bool {
		field, is := x.FieldByName("Queue")
		return is && field.Anonymous && field.Type == reflect.TypeFor[*queue.Queue]()
	}
	if !slices.ContainsFunc(fields(reflect.TypeFor[session.Sessions]()), func(x reflect.Type) bool {
		return x.Kind() == reflect.Map && x.Elem().Kind() == reflect.Pointer && embeds(x.Elem().Elem())
	}) {
		t.Errorf("session keeps no sessions that embed their queue")
	}
	if has(t, "session", func(n ast.Node, _ *ast.FuncDecl) bool {
		x, ok := n.(*ast.SelectorExpr)
		if !ok || x.Sel.Name != "Queue" {
			return false
		}
		pack, ok := x.X.(*ast.Ident)
		return !ok || pack.Name != "queue"
	}) {
		t.Errorf("session calls a queue's methods otherwise than as the session's own")
	}
}

// The ways of layer 20: messages are dispatched by a switch over their kinds; what waits is gone through by closures.
func TestBrokerGoesThroughWhatWaitsByClosures(t *testing.T) {
	kinds := has(t, "broker", func(n ast.Node, _ *ast.FuncDecl) bool {
		x, ok := n.(*ast.SwitchStmt)
		if !ok {
			return false
		}
		tag, ok := x.Tag.(*ast.SelectorExpr)
		return ok && tag.Sel.Name == "Kind" && len(x.Body.List) >= 12
	})
	gone := has(t, "broker", func(n ast.Node, _ *ast.FuncDecl) bool {
		x, ok := n.(*ast.CallExpr)
		return ok && slices.ContainsFunc(x.Args, func(arg ast.Expr) bool {
			_, is := arg.(*ast.FuncLit)
			return is
		})
	})
	if !kinds || !gone {
		t.Errorf("broker dispatches no messages by a switch (%v), or goes through nothing by a closure (%v)", kinds, gone)
	}
}

// The ways of layer 21: calls are done by method expressions, that stand in a table within a function, by their kinds.
func TestModelCallsByMethodExpressions(t *testing.T) {
	isExpression := func(x ast.Expr) bool {
		row, ok := x.(*ast.KeyValueExpr)
		if !ok {
			return false
		}
		method, ok := row.Value.(*ast.SelectorExpr)
		if !ok {
			return false
		}
		_, ok = method.X.(*ast.ParenExpr)
		return ok
	}
	if !has(t, "model", func(n ast.Node, _ *ast.FuncDecl) bool {
		x, ok := n.(*ast.CompositeLit)
		return ok && len(x.Elts) == api.CallOver && !slices.ContainsFunc(x.Elts, func(e ast.Expr) bool { return !isExpression(e) })
	}) {
		t.Errorf("model has no table of method expressions, one for each kind of calls")
	}
}

// The ways of layer 22: brokers stand in an array, whose places are gone through; deeds are dispatched by a switch over their kinds.
func TestHermesKeepsBrokersInAnArray(t *testing.T) {
	stand := slices.ContainsFunc(fields(reflect.TypeFor[hermes.Hermes]()), func(x reflect.Type) bool {
		return x.Kind() == reflect.Array && x.Elem() == reflect.TypeFor[*broker.Broker]()
	})
	gone := has(t, "hermes", func(n ast.Node, f *ast.FuncDecl) bool {
		x, ok := n.(*ast.RangeStmt)
		if !ok || x.Value != nil {
			return false
		}
		row, ok := x.X.(*ast.SelectorExpr)
		return ok && row.Sel.Name == "brokers"
	})
	kinds := has(t, "hermes", func(n ast.Node, _ *ast.FuncDecl) bool {
		x, ok := n.(*ast.SwitchStmt)
		if !ok {
			return false
		}
		tag, ok := x.Tag.(*ast.SelectorExpr)
		return ok && tag.Sel.Name == "Kind" && len(x.Body.List) > api.DeedCalm
	})
	if !stand || !gone || !kinds {
		t.Errorf("hermes has no array of brokers (%v), goes through no places of one (%v), or dispatches no deeds by a switch (%v)", stand, gone, kinds)
	}
}

// The ways of layer 23: words are cut off by a function that returns several things, and joined by one that takes any number.
func TestTaleCutsAndJoinsWords(t *testing.T) {
	cuts := has(t, "tale", func(n ast.Node, _ *ast.FuncDecl) bool {
		x, ok := n.(*ast.FuncDecl)
		return ok && x.Name.Name == "cut" && x.Type.Results.NumFields() > 1
	})
	joins := has(t, "tale", func(n ast.Node, _ *ast.FuncDecl) bool {
		x, ok := n.(*ast.FuncDecl)
		if !ok || x.Name.Name != "join" || x.Type.Params.NumFields() == 0 {
			return false
		}
		_, ok = x.Type.Params.List[len(x.Type.Params.List)-1].Type.(*ast.Ellipsis)
		return ok
	})
	if !cuts || !joins || !hasCall(t, "tale", "cut") || !hasCall(t, "tale", "join") {
		t.Errorf("tale cuts no words off by a function of several results (%v), or joins none by one that takes any number (%v)", cuts, joins)
	}
}

// The ways of layer 24: what was published stands in a map by identities; findings are made by a closure.
func TestAuditKnowsByIdentities(t *testing.T) {
	stands := false
	for _, f := range sources(t) {
		ast.Inspect(f.tree, func(n ast.Node) bool {
			x, ok := n.(*ast.MapType)
			if !ok || f.layer != "audit" {
				return true
			}
			key, ok := x.Key.(*ast.SelectorExpr)
			stands = stands || ok && key.Sel.Name == "ID"
			return true
		})
	}
	makes := func(x *ast.FuncLit) (found bool) {
		ast.Inspect(x, func(n ast.Node) bool {
			y, ok := n.(*ast.SelectorExpr)
			found = found || ok && y.Sel.Name == "Finding"
			return true
		})
		return found
	}
	made := has(t, "audit", func(n ast.Node, _ *ast.FuncDecl) bool {
		x, ok := n.(*ast.FuncLit)
		return ok && makes(x)
	})
	if !stands || !made {
		t.Errorf("audit has no map by identities (%v), or makes no findings by a closure (%v)", stands, made)
	}
}

// calls tells whether a function calls what an expression names.
func calls(f *ast.FuncDecl, what ast.Expr) bool {
	found := false
	ast.Inspect(f, func(n ast.Node) bool {
		x, ok := n.(*ast.CallExpr)
		found = found || ok && x.Fun == what
		return true
	})
	return found
}

// What comes in to a call is not told by its type within the call itself.
func TestCallsTellNothingByType(t *testing.T) {
	for _, layer := range layers {
		if has(t, layer, func(n ast.Node, f *ast.FuncDecl) bool {
			_, told := n.(*ast.TypeSwitchStmt)
			_, asserted := n.(*ast.TypeAssertExpr)
			return f.Name.IsExported() && (told || asserted)
		}) {
			t.Errorf("a call of %s has a type switch or an assertion", layer)
		}
	}
}

// hasCall tells whether a function of the layer calls one of that name.
func hasCall(t *testing.T, layer, name string) bool {
	return has(t, layer, func(n ast.Node, _ *ast.FuncDecl) bool {
		x, ok := n.(*ast.CallExpr)
		if !ok {
			return false
		}
		what, ok := x.Fun.(*ast.Ident)
		return ok && what.Name == name
	})
}

// has tells whether a function of the layer has such a node.
func has(t *testing.T, layer string, is func(ast.Node, *ast.FuncDecl) bool) bool {
	found := false
	for _, f := range sources(t) {
		for _, d := range f.tree.Decls {
			x, ok := d.(*ast.FuncDecl)
			if !ok || f.layer != layer {
				continue
			}
			ast.Inspect(x, func(n ast.Node) bool {
				found = found || n != nil && is(n, x)
				return true
			})
		}
	}
	return found
}

// takesText tells whether a function has a parameter of that name that is a string.
func takesText(f *ast.FuncDecl, name string) bool {
	for _, p := range f.Type.Params.List {
		kind, ok := p.Type.(*ast.Ident)
		for _, n := range p.Names {
			if ok && kind.Name == "string" && n.Name == name {
				return true
			}
		}
	}
	return false
}
