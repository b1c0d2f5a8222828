package check_test

import (
	"fmt"
	"strings"
	"testing"

	"recast/api"
	"recast/check"
	"recast/module"
	"recast/types"
)

// files is a list of files: path, text, path, text ..
func files(l ...string) []api.File {
	var out []api.File
	for i := 0; i+1 < len(l); i += 2 {
		out = append(out, api.File{Path: l[i], Text: l[i+1]})
	}
	return out
}

// loaded is the module of files that load.
func loaded(t *testing.T, l []api.File) *module.Module {
	t.Helper()
	m, fault := module.Load(l)
	if fault.Code != 0 {
		t.Fatalf("%.800s does not load: %v", shownFiles(l), fault)
	}
	return m
}

// rejected wants a module not to be right, and nothing to be told of it.
func rejected(t *testing.T, what string, l []api.File) {
	t.Helper()
	m := loaded(t, l)
	r, fault := check.Module(m, nil)
	if fault != (api.Fault{Code: api.FaultType}) || !empty(r) {
		t.Errorf("%s: Module is %v of %.800s", what, fault, shownFiles(l))
	}
	if _, other := check.Reason(m, nil); other != nil {
		t.Errorf("%s: checking ends with %v at %.800s", what, other, shownFiles(l))
	}
}

// taken wants a module to be right.
func taken(t *testing.T, what string, l []api.File) check.Result {
	t.Helper()
	m := loaded(t, l)
	r, fault := check.Module(m, nil)
	if fault != (api.Fault{}) {
		why, _ := check.Reason(m, nil)
		t.Errorf("%s: Module is %v (%s) of %.800s", what, fault, why, shownFiles(l))
	}
	return r
}

// empty tells whether a result tells nothing.
func empty(r check.Result) bool {
	return len(r.Info.Objects)+len(r.Info.Uses)+len(r.Info.Types)+len(r.Named)+len(r.Order) == 0
}

// shownFiles is the texts of files, without what all of them begin with.
func shownFiles(l []api.File) string {
	var out []string
	for _, f := range l {
		out = append(out, f.Path+": "+strings.Replace(f.Text, prelude, "..; ", 1))
	}
	return strings.Join(out, "\n")
}

// pair is something that is wrong, and what is right that is next to it.
type pair struct{ wrong, right string }

// differ wants of each pair the first to be rejected and the second to be taken.
func differ(t *testing.T, what string, around func(string) []api.File, pairs ...pair) {
	t.Helper()
	for _, p := range pairs {
		rejected(t, "P13.1: "+what, around(p.wrong))
		taken(t, "P13.1: "+what, around(p.right))
	}
}

// prelude is declarations of package main, for what is tried beside them.
const prelude = `type M int; type N string; type B bool; type L []int; type F func(int) int; type C chan int; type Q *T; type A any; type O struct {}; ` +
	`type U struct { p int }; type T struct { U; x int; n *T; f func(int) int }; type Z struct { a []int }; func (u U) m() int { return 1 }; func (u *U) s() {}; func (m M) m() int { return 2 }; ` +
	`type I interface { m() int }; type J interface { I; s() }; type E interface {}; ` +
	`func id[X any](x X) X { return x }; func less[X int|string](x X, y X) bool { return x < y }; func eq[X comparable](x X, y X) bool { return x == y }; func call[X I](x X) int { return x.m() }; ` +
	`func pair() (int, string) { return 1, "a" }; func none() {}; func one() int { return 1 }; func many(x int, l ...int) int { return x }; ` +
	`const k = 5; const kt M = 5; const ks = "abc"; const kb = true; const big = 9223372036854775808; ` +
	`var i int; var j int; var s string; var b bool; var m M; var n N; var bb B; var t T; var u U; var p *T; var q Q; var a []int; var l L; var c chan int; var cc C; var e any; var v I; var w J; var f func(int) int; var g F; var o O; var z Z; `

// beside is a module with these declarations beside the prelude.
func beside(decls string) []api.File {
	return files("main/a.gc", "package main; "+prelude+decls+"; func main() {}")
}

// inMain is a module with these statements in a function beside the prelude.
func inMain(stmts string) []api.File {
	return files("main/a.gc", "package main; "+prelude+"func main() { "+stmts+" }")
}

// asValue is a module in which something stands where a value should.
func asValue(expr string) []api.File { return inMain("_ = " + expr) }

// printed is a module in which something is printed.
func printed(expr string) []api.File { return inMain("print(" + expr + ")") }

// alone is a module with these declarations alone beside the function main.
func alone(decls string) []api.File {
	return files("main/a.gc", "package main; "+decls+"; func main() {}")
}

// abroad is a module with these statements in a function of package main, which imports another package.
func abroad(stmts string) []api.File {
	return files("main/a.gc", "package main; import \"b\"; type T b.S; type E struct { b.S }; type D struct { b.W }; func main() { var s b.S; var w b.W; var t T; print(s.X, w.X, t.X, b.V, E{}.X, D{}.X); "+stmts+" }",
		"b/b.gc", `package b; type S struct { X int; y int }; func (s S) M() int { return s.y }; func (s *S) P() {}; func (s S) h() {}; type W struct { X int; Y string }; type I interface { M() int; h() }; type K interface { M() int }; var V = 1; const C = 2; const D S2 = 3; type S2 int; func F(x int) int { return x }; func G[T any](x T) T { return x }; type R struct { S; Z int }; type R2 struct { W; Z int }; type R3 struct { hidden; Z int }; type hidden struct { A int }; func New() hidden { return hidden{1} }; func Call[T I](x T) {}; var L []S; var U I`)
}

// typesShown is what is told of the expressions of a file, in short: a ! behind a constant's type.
func typesShown(t *testing.T, l []api.File, path string) string {
	t.Helper()
	m := loaded(t, l)
	r, fault := check.Module(m, nil)
	if fault.Code != 0 {
		why, _ := check.Reason(m, nil)
		t.Errorf("Module is %v (%s) of %.800s", fault, why, shownFiles(l))
		return ""
	}
	text, _ := m.Text(path)
	var out []string
	for _, x := range r.Info.Types {
		if x.Path == path {
			sign := ""
			if x.Const {
				sign = "!"
			}
			out = append(out, fmt.Sprintf("%s=%s%s", text[x.From:x.To], types.Text(x.Type), sign))
		}
	}
	return strings.Join(out, " ")
}

// shown is all that Module answered.
func shown(r check.Result, fault api.Fault) string {
	var b strings.Builder
	fmt.Fprintln(&b, fault)
	for _, o := range r.Info.Objects {
		fmt.Fprintln(&b, o.Kind, o.Name, o.Pkg, o.Path, o.At, o.Level, types.Text(o.Type))
	}
	for _, u := range r.Info.Uses {
		fmt.Fprintln(&b, u.Path, u.At, u.Obj)
	}
	for _, x := range r.Info.Types {
		fmt.Fprintln(&b, x.Path, x.From, x.To, types.Text(x.Type), x.Const)
	}
	for _, n := range r.Named {
		fmt.Fprintln(&b, n.Name, types.Text(n.Under))
		for _, m := range n.Methods {
			fmt.Fprintln(&b, m.Name, m.Ptr, types.Text(m.Sig))
		}
	}
	fmt.Fprintln(&b, r.Order)
	return b.String()
}
