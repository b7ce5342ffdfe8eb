package tests

import (
	"bytes"
	"go/ast"
	"go/build"
	"go/format"
	"go/importer"
	"go/parser"
	"go/token"
	"go/types"
	"os"
	"os/exec"
	"path/filepath"
	"slices"
	"strings"
	"sync"
	"testing"
)

const mostFunctionLines = 60

const allowedImports = " bytes cmp container/heap errors iter maps math math/bits slices sort strconv strings sync sync/atomic unicode unicode/utf8 "

const allowedOfSync = " Mutex RWMutex WaitGroup Once "

// ruleLook gathers what in a package breaks the rules of LANGUAGE.md, as far as its text shows it.
type ruleLook struct {
	fset    *token.FileSet
	info    *types.Info
	scope   *types.Scope
	found   []string
	guarded map[ast.Stmt]bool
}

func (l *ruleLook) report(at ast.Node, what string) {
	l.found = append(l.found, l.fset.Position(at.Pos()).String()+": "+what)
}

// library is shared because reading the standard library's sources is what takes the time.
var library = sync.OnceValue(func() types.Importer {
	if build.Default.GOROOT == "" {
		root, _ := exec.Command("go", "env", "GOROOT").Output()
		build.Default.GOROOT = strings.TrimSpace(string(root))
	}
	return importer.ForCompiler(token.NewFileSet(), "source", nil)
})

// breaches tells what the files of one package (text by name) break.
func breaches(t *testing.T, sources map[string]string) []string {
	l := &ruleLook{fset: token.NewFileSet(), guarded: map[ast.Stmt]bool{}, info: &types.Info{
		Types: map[ast.Expr]types.TypeAndValue{}, Uses: map[*ast.Ident]types.Object{}, Defs: map[*ast.Ident]types.Object{},
	}}
	var names []string
	for name := range sources {
		names = append(names, name)
	}
	slices.Sort(names)
	var files []*ast.File
	for _, name := range names {
		f, err := parser.ParseFile(l.fset, name, sources[name], parser.ParseComments)
		if err != nil {
			t.Fatal(err)
		}
		if plain, err := format.Source([]byte(sources[name])); err != nil || !bytes.Equal(plain, []byte(sources[name])) {
			l.report(f, "not in gofmt's layout")
		}
		files = append(files, f)
	}
	conf := types.Config{Importer: library(), Error: func(error) {}}
	pack, err := conf.Check("impl", l.fset, files, l.info)
	if err != nil {
		t.Fatal(err)
	}
	l.scope = pack.Scope()
	for _, f := range files {
		l.lookAtFile(f)
	}
	return l.found
}

func (l *ruleLook) lookAtFile(f *ast.File) {
	for _, i := range f.Imports {
		if path := strings.Trim(i.Path.Value, "\""); !strings.Contains(allowedImports, " "+path+" ") {
			l.report(i, "import of "+path)
		}
	}
	for _, group := range f.Comments {
		for _, c := range group.List {
			if strings.HasPrefix(c.Text, "//go:") || strings.HasPrefix(c.Text, "// +build") {
				l.report(c, "directive "+c.Text)
			}
		}
	}
	for _, d := range f.Decls {
		switch x := d.(type) {
		case *ast.GenDecl:
			l.lookAtVariables(x)
		case *ast.FuncDecl:
			l.lookAtFunction(x)
		}
	}
	ast.Inspect(f, func(n ast.Node) bool {
		l.lookAtNode(n)
		return true
	})
}

func (l *ruleLook) lookAtVariables(d *ast.GenDecl) {
	if d.Tok != token.VAR {
		return
	}
	for _, s := range d.Specs {
		v := s.(*ast.ValueSpec)
		if len(v.Values) != len(v.Names) {
			l.report(v, "package variable without a value of its own")
			continue
		}
		for i, name := range v.Names {
			if name.Name != "_" {
				l.lookAtValue(v.Values[i], l.info.Defs[name].Type())
			}
		}
	}
}

func (l *ruleLook) lookAtValue(value ast.Expr, kind types.Type) {
	if call, ok := value.(*ast.CallExpr); ok && types.ExprString(call.Fun) == "errors.New" {
		return
	}
	if !plainTable(kind) {
		l.report(value, "package variable that is no table of plain values")
	}
	if b, ok := kind.Underlying().(*types.Basic); ok && b.Info()&types.IsString != 0 {
		l.report(value, "package text that is no constant")
	}
	ast.Inspect(value, func(n ast.Node) bool {
		switch x := n.(type) {
		case *ast.CallExpr:
			if !l.info.Types[x.Fun].IsType() {
				l.report(x, "package variable computed by a call")
			}
		case *ast.Ident:
			if v, ok := l.info.Uses[x].(*types.Var); ok && v.Parent() == l.scope {
				l.report(x, "package variable that refers to another one")
			}
		}
		return true
	})
}

// plainTable: numbers without floats, texts, flags, and structs, arrays and slices of these.
func plainTable(kind types.Type) bool {
	switch x := kind.Underlying().(type) {
	case *types.Basic:
		return x.Info()&(types.IsInteger|types.IsString|types.IsBoolean) != 0
	case *types.Array:
		return plainTable(x.Elem())
	case *types.Slice:
		return plainTable(x.Elem())
	case *types.Struct:
		for i := range x.NumFields() {
			if !plainTable(x.Field(i).Type()) {
				return false
			}
		}
		return true
	}
	return false
}

func (l *ruleLook) lookAtFunction(d *ast.FuncDecl) {
	lines := l.fset.Position(d.End()).Line - l.fset.Position(d.Pos()).Line + 1
	if lines > mostFunctionLines {
		l.report(d, "function "+d.Name.Name+" is too long")
	}
	if d.Body == nil {
		l.report(d, "function "+d.Name.Name+" without a body")
	}
	if !d.Name.IsExported() {
		return
	}
	for _, p := range d.Type.Params.List {
		m, ok := l.info.Types[p.Type].Type.Underlying().(*types.Map)
		if ok && !goodKey(m.Key()) {
			l.report(p, "map argument with floats, pointers or interfaces as keys")
		}
	}
}

func goodKey(kind types.Type) bool {
	switch x := kind.Underlying().(type) {
	case *types.Basic:
		return x.Info()&(types.IsFloat|types.IsComplex) == 0
	case *types.Pointer, *types.Interface:
		return false
	}
	return true
}

func (l *ruleLook) lookAtNode(n ast.Node) {
	switch x := n.(type) {
	case *ast.SelectorExpr:
		l.lookAtSelector(x)
	case *ast.BinaryExpr:
		if (x.Op == token.EQL || x.Op == token.NEQ) && l.hasMethods(x.X) && l.hasMethods(x.Y) {
			l.report(x, "two values of an interface type compared")
		}
	case *ast.CallExpr:
		l.lookAtCall(x)
	case *ast.AssignStmt:
		for _, to := range x.Lhs {
			l.lookAtTarget(to)
		}
		if l.assertsInterface(x) && !l.guarded[x] {
			l.report(x, "assertion to an interface whose ok guards nothing")
		}
	case *ast.IncDecStmt:
		l.lookAtTarget(x.X)
	case *ast.UnaryExpr:
		if x.Op == token.AND {
			l.lookAtTarget(x.X)
		}
	case *ast.RangeStmt:
		if x.Tok == token.ASSIGN {
			l.lookAtTarget(x.Key)
			l.lookAtTarget(x.Value)
		}
		l.lookAtMapRange(x)
	case *ast.IfStmt:
		l.lookAtIf(x)
	}
}

func (l *ruleLook) lookAtSelector(x *ast.SelectorExpr) {
	id, ok := x.X.(*ast.Ident)
	if !ok {
		return
	}
	p, ok := l.info.Uses[id].(*types.PkgName)
	if !ok {
		return
	}
	name := p.Imported().Path() + "." + x.Sel.Name
	if name == "iter.Pull" || name == "iter.Pull2" {
		l.report(x, "use of "+name)
	}
	if p.Imported().Path() == "sync" && !strings.Contains(allowedOfSync, " "+x.Sel.Name+" ") {
		l.report(x, "use of "+name)
	}
}

func (l *ruleLook) hasMethods(e ast.Expr) bool {
	v := l.info.Types[e]
	if v.IsNil() || v.Type == nil {
		return false
	}
	i, ok := v.Type.Underlying().(*types.Interface)
	return ok && i.NumMethods() > 0
}

func (l *ruleLook) lookAtCall(x *ast.CallExpr) {
	if id, ok := x.Fun.(*ast.Ident); ok {
		if _, ok := l.info.Uses[id].(*types.Builtin); ok && (id.Name == "print" || id.Name == "println") {
			l.report(x, "printing")
		}
	}
	to := l.info.Types[x.Fun]
	if !to.IsType() || len(x.Args) != 1 || l.info.Types[x.Args[0]].Value == nil {
		return
	}
	if s, ok := to.Type.Underlying().(*types.Slice); ok && types.Identical(s.Elem(), types.Universe.Lookup("rune").Type()) {
		l.report(x, "constant text made runes")
	}
}

// lookAtTarget reports a package variable, or a part of one, that is written or whose address is taken.
func (l *ruleLook) lookAtTarget(e ast.Expr) {
	switch x := e.(type) {
	case *ast.ParenExpr:
		l.lookAtTarget(x.X)
	case *ast.IndexExpr:
		l.lookAtTarget(x.X)
	case *ast.SelectorExpr:
		l.lookAtTarget(x.X)
	case *ast.SliceExpr:
		l.lookAtTarget(x.X)
	case *ast.Ident:
		if v, ok := l.info.Uses[x].(*types.Var); ok && v.Parent() == l.scope {
			l.report(x, "package variable "+x.Name+" changed or pointed at")
		}
	}
}

// assertsInterface tells whether a statement is v, ok := x.(I) with an interface that has methods.
func (l *ruleLook) assertsInterface(s ast.Stmt) bool {
	a, ok := s.(*ast.AssignStmt)
	if !ok || len(a.Lhs) != 2 || len(a.Rhs) != 1 {
		return false
	}
	x, ok := a.Rhs[0].(*ast.TypeAssertExpr)
	return ok && x.Type != nil && l.hasMethods(x.Type) && types.ExprString(a.Lhs[0]) != "_"
}

// lookAtIf comes ahead of the look at the assertion itself, as the if stands around it.
func (l *ruleLook) lookAtIf(x *ast.IfStmt) {
	if x.Init == nil || !l.assertsInterface(x.Init) {
		return
	}
	a := x.Init.(*ast.AssignStmt)
	ok, cond := types.ExprString(a.Lhs[1]), types.ExprString(x.Cond)
	if (cond == ok || strings.HasPrefix(cond, ok+" && ")) && x.Else == nil {
		l.guarded[a] = true
	}
}

func (l *ruleLook) lookAtMapRange(x *ast.RangeStmt) {
	if _, ok := l.info.Types[x.X].Type.Underlying().(*types.Map); !ok {
		return
	}
	key := ""
	if x.Key != nil {
		key = types.ExprString(x.Key)
	}
	ast.Inspect(x.Body, func(n ast.Node) bool {
		a, ok := n.(*ast.AssignStmt)
		if !ok {
			return true
		}
		for _, to := range a.Lhs {
			i, ok := to.(*ast.IndexExpr)
			if ok && types.ExprString(i.X) == types.ExprString(x.X) && types.ExprString(i.Index) != key {
				l.report(i, "key stored into a map that is ranged over")
			}
		}
		return true
	})
}

func TestProgramKeepsToTheLanguage(t *testing.T) {
	entries, err := os.ReadDir("../impl")
	if err != nil {
		t.Fatal(err)
	}
	sources := map[string]string{}
	for _, e := range entries {
		name := e.Name()
		if e.IsDir() || !strings.HasSuffix(name, ".go") {
			t.Errorf("impl/%s is no Go file", name)
			continue
		}
		if strings.HasSuffix(name, "_test.go") {
			continue
		}
		text, err := os.ReadFile(filepath.Join("../impl", name))
		if err != nil {
			t.Fatal(err)
		}
		sources[name] = string(text)
	}
	if len(sources) != 19 {
		t.Errorf("%d files, want one for each of the 19 layers", len(sources))
	}
	for _, b := range breaches(t, sources) {
		t.Error(b)
	}
}
