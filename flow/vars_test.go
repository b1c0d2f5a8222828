package flow_test

import (
	"testing"

	"recast/api"
	"recast/flow"
	"recast/tree"
)

// mains is a file with a function main of these statements, and these declarations besides.
func mains(t *testing.T, decls, stmts string) source {
	t.Helper()
	const begin = `package main; import "b"
type U struct { h int }; func (u *U) P() {}; func (u U) Q() {}
type W U
type T struct { f int; U; w W; n *T; k func(); a []U }; func (t *T) M() *T { return t }; func (t T) V() T { return t }
type R *T; type V2 T; type I interface { M() *T }; var e = b.C
`
	return checked(t, "main/a.gc", begin+decls+"\nfunc main() {\n"+stmts+"\n}", "b/b.gc", "package b; type E struct { X int }; func (e *E) P() {}; func (e E) Q() {}; const C = 1; var W int; var V E; func F() {}",
		"main/b.gc", "package main; var far int; func (u *U) Far() {}; func (w W) Near() {}; func gen[A any](a A) A { return a }")
}

func TestShared(t *testing.T) {
	for _, c := range []struct{ decls, stmts, want string }{
		// Variables of packages, where they are used.
		{"", "", "e"},
		{"var y = 1", "", "e y"},
		{"", "far = 1", "e far"},
		{"", "print(b.W)", "W e"},
		{"", "b.V.X = 1; b.V.P()", "V e"},
		{"const y = 1; func g() {}", "print(y, b.C); g(); b.F()", "e"},
		// Those that FuncLits use.
		{"", "v := 1; print(v)", "e"},
		{"", "v := 1; _ = func() int { return v }", "e v"},
		{"", "v := 1; _ = v; _ = func() { v = 2 }", "e v"},
		{"", "v := 1; _ = v; _ = func() { v++ }", "e v"},
		{"", "v := 1; _ = v; _ = func() { v := 2; print(v) }", "e"},
		{"", "_ = func() { v := 2; print(v) }", "e"},
		{"", "_ = func() { v := 2; _ = func() { print(v) } }", "e v"},
		{"", "_ = func() { v := 2; _ = v; if v := v; v > 0 { print(v) } }", "e"},
		{"", "v := 1; { _ = func() { _ = func() { print(v) } } }", "e v"},
		{"", "_ = func(v int) { print(v) }", "e"},
		{"", "_ = func(v int) { func() { print(v) }() }", "e v"},
		{"", "v := 1; func(w int) { print(w) }(v)", "e"},
		{"func g(v int, w int) { _ = func() { print(v) }; print(w) }", "", "e v"},
		{"func (v T) g() { _ = func() { v.k() } }", "", "e v"},
		{"", "for v := range 3 { go func() { print(v) }() }", "e v"},
		{"", "for v := 0; v < 3; v++ { defer func() { print(v) }() }", "e v"},
		{"", "if v := 1; v > 0 { go func() { print(v) }() }", "e v"},
		{"", "c := make(chan int); select { case v, ok := <-c: _ = func() { print(ok) }; print(v) }", "e ok"},
		{"", "v := T{}; _ = func() { print(v.f) }", "e v"},
		{"", "v := &T{}; _ = func() { print(v.f) }", "e v"},
		{"", "f := 1; v := T{}; _ = v; _ = func() { _ = T{f: 1}; print(v.f) }; print(f)", "e v"},
		{"func g[A any](v A) { _ = func() { _ = v } }", "", "e v"},
		// Those to which a pointer is made.
		{"", "v := 1; _ = &v", "e v"},
		{"", "v := 1; _ = &(v)", "e v"},
		{"", "v := T{}; _ = &v.f", "e v"},
		{"", "v := T{}; _ = &v.U.h", "e v"},
		{"", "v := T{}; _ = &v.h", "e v"},
		{"", "v := T{}; _ = &((v.U).h)", "e v"},
		{"", "v := T{}; _ = &v.w.h", "e v"},
		{"", "v := V2{}; _ = &v.f", "e v"},
		{"", "v := &T{}; _ = &v.f", "e"},
		{"", "v := &T{}; _ = &v.h", "e"},
		{"", "v := R(&T{}); _ = &v.f", "e"},
		{"", "v := T{}; _ = &v.n.f", "e"},
		{"", "v := T{}; _ = &v.n", "e v"},
		{"", "v := []int{}; _ = &v[0]", "e"},
		{"", "v := []T{}; _ = &v[0].f", "e"},
		{"", "v := T{}; _ = &v.a[0].h", "e"},
		{"", "v := &T{}; _ = &*v", "e"},
		{"", "v := 1; _ = &T{f: v}", "e"},
		{"", "v := 1; _ = -v; _ = *&T{}; c := make(chan int); _ = <-c; q := true; _ = !q; w := &c; _ = *w", "c e"},
		{"", "v := b.E{}; _ = &v.X", "e v"},
		// Those whose methods take a pointer.
		{"", "v := T{}; v.M()", "e v"},
		{"", "v := T{}; v.V()", "e"},
		{"", "v := &T{}; v.M()", "e"},
		{"", "v := &T{}; v.V()", "e"},
		{"", "v := R(&T{}); v.M()", "e"},
		{"", "v := &T{}; (*v).M()", "e"},
		{"", "v := T{}; (v).M()", "e v"},
		{"", "v := T{}; v.P()", "e v"},
		{"", "v := T{}; v.Q()", "e"},
		{"", "v := T{}; v.U.P()", "e v"},
		{"", "v := T{}; v.U.Q()", "e"},
		{"", "v := T{}; v.Far()", "e v"},
		{"", "v := T{}; v.w.Near()", "e"},
		{"", "v := &T{}; v.P()", "e"},
		{"", "v := &T{}; v.U.P()", "e"},
		{"", "v := T{}; v.n.M()", "e"},
		{"", "v := T{}; v.n.P()", "e"},
		{"", "v := T{}; v.V(); v.n.U.P()", "e"},
		{"", "v := T{}; v.V().n.M()", "e"},
		{"", "v := T{}; v.M().M()", "e v"},
		{"", "v := []T{}; v[0].M()", "e"},
		{"", "v := T{}; v.a[0].P()", "e"},
		{"", "v := T{}; v.k()", "e"},
		{"", "var v I = &T{}; v.M()", "e"},
		{"", "v := b.E{}; v.P()", "e v"},
		{"", "v := b.E{}; v.Q()", "e"},
		{"", "v := T{}; go v.M()", "e v"},
		{"", "v := T{}; defer v.P()", "e v"},
		{"", "v := T{}; defer v.V()", "e"},
		{"func (v U) g() { v.P() }", "", "e v"},
		{"func (v *U) g() { v.P() }", "", "e"},
		{"func g[A I](v A) { v.M() }", "", "e"},
		{"func g(v T) { v.M() }", "", "e v"},
		// Several.
		{"var y T", "v := 1; w := T{}; z := 1; print(v); w.M(); _ = &z; y.M(); far++", "e far w y z"},
	} {
		s := mains(t, c.decls, c.stmts)
		got := flow.Shared(s.Result, s.tree, s.path)
		if s.sortedNames(got) != c.want || !rising(got) {
			t.Errorf("P15.1: with %s, in %s those are shared: %s %v, want %s", c.decls, c.stmts, s.names(got), got, c.want)
		}
	}
}

// Of a part of a file just the uses in it, and the FuncLits of it, count.
func TestSharedOfParts(t *testing.T) {
	s := mains(t, "", "v, w, z := 1, 2, 3; print(w); print(e); _ = &z; func(p int) { print(v, p); q := 1; func() { print(q, p) }() }(1); z = 2")
	stmts := s.block(t, "main").Kids
	lit := stmts[4].Kids[0].Kids[0]
	inner := lit.Kids[2].Kids[2].Kids[0].Kids[0]
	for what, c := range map[string]struct {
		n    api.Node
		want string
	}{
		"the Block":               {s.block(t, "main"), "e p q v z"},
		"print(w)":                {stmts[1], ""},
		"print(e)":                {stmts[2], "e"},
		"_ = &z":                  {stmts[3], "z"},
		"the call of the FuncLit": {stmts[4], "p q v"},
		"the FuncLit":             {lit, "p q v"},
		"its Block":               {lit.Kids[2], "p q"},
		"its first statement":     {lit.Kids[2].Kids[0], ""},
		"the FuncLit within":      {inner, "p q"},
		"the Block of that":       {inner.Kids[2], ""},
		"z = 2":                   {stmts[5], ""},
		"nothing":                 {api.Node{}, ""},
	} {
		if got := flow.Shared(s.Result, c.n, s.path); s.sortedNames(got) != c.want || !rising(got) {
			t.Errorf("P15.1: of %s those are shared: %s %v, want %s", what, s.names(got), got, c.want)
		}
	}
	if got := flow.Shared(s.Result, s.tree, "main/z.gc"); len(got) > 0 {
		t.Errorf("P15.1: in a file that there is not those are shared: %v", got)
	}
}

func TestAssignedUsed(t *testing.T) {
	for _, c := range []struct{ stmts, assigned, used string }{
		{"", "", ""},
		{"v := 1; _ = v", "", "v"},
		{"v := 1; w := v; _ = w", "", "v w"},
		{"v := 1; v = 2; _ = v", "v", "v"},
		{"v, w := 1, 2; v, w = w, v", "v w", "v w"},
		{"v, w := 1, 2; w = v; _ = w", "w", "v w"},
		{"v := 1; v, w := 2, 3; _, _ = v, w", "v", "v w"},
		{"v := 1; w, v := 2, 3; _, _ = v, w", "v", "v w"},
		{"v := 1; _, w := 2, v; _ = w", "", "v w"},
		{"v := 1; if v, w := 2, 3; v > w { }; _ = v", "", "v v w"},
		{"v := 1; { v, w := 2, 3; v, z := 4, 5; print(v, w, z) }; _ = v", "v", "v v w z"},
		{"v := 1; v += 2", "v", "v"},
		{"v := \"a\"; v += \"b\"", "v", "v"},
		{"v := 1; v -= 1; v *= 1; v /= 1; v %= 1", "v", "v"},
		{"v := 1; v++", "v", "v"},
		{"v := 1; v--; v++", "v", "v"},
		{"v := 1; (v) = 2; _ = v", "v", "v"},
		{"v := 1; ((v))++", "v", "v"},
		{"v := T{}; v.f = 1", "v", "v"},
		{"v := T{}; v.f++", "v", "v"},
		{"v := T{}; v.f -= 1", "v", "v"},
		{"v := T{}; v.h = 1", "v", "v"},
		{"v := T{}; v.U.h = 1", "v", "v"},
		{"v := T{}; v.w.h = 1", "v", "v"},
		{"v := V2{}; v.h = 1", "v", "v"},
		{"v := T{}; (v.U).h = 1", "v", "v"},
		{"v := T{}; v.n.f = 1", "", "v"},
		{"v := T{}; v.n = nil", "v", "v"},
		{"v := &T{}; v.f = 1", "", "v"},
		{"v := &T{}; v.h++", "", "v"},
		{"v := R(&T{}); v.f = 1", "", "v"},
		{"v := &T{}; *v = T{}", "", "v"},
		{"v := &T{}; (*v).f = 1", "", "v"},
		{"v := []int{}; v[0] = 1", "", "v"},
		{"v, w := []int{}, 1; v[w]++", "", "v w"},
		{"v := []T{}; v[0].f = 1", "", "v"},
		{"v := T{}; v.a[0].h = 1", "", "v"},
		{"v := T{}; v.V().n.f = 1", "", "v"},
		{"v, w := 1, 2; v, _ = w, 3; _ = v", "v", "v w"},
		{"v := 1; func() { v = 2 }(); _ = v", "v", "v"},
		{"func() { v := 1; v = 2; _ = v; go func() { v++ }() }()", "v", "v"},
		{"v := func(w int) { w = 1; _ = w }; v(1)", "w", "v w"},
		{"for v := 0; v < 3; v++ { }", "v", "v"},
		{"for v := range 3 { print(v) }", "", "v"},
		{"v := 1; for v := range v { v = 3; print(v) }", "v", "v v"},
		{"c := make(chan int); select { case v, ok := <-c: v = 1; print(v, ok); case c <- 1: }", "v", "c ok v"},
		{"c := make(chan int); v, ok := <-c; v, ok = <-c; print(v, ok)", "ok v", "c ok v"},
		{"c := make(chan int); c <- 1", "", "c"},
		{"v := 1; _ = &v; v2 := &v; *v2 = 3", "", "v v2"},
		{"v := T{}; v.M()", "", "v"},
		{"var v int; _ = v", "", "v"},
		{"var v int = 1; const w = 2; print(v, w)", "", "v"},
		{"e = 2", "e", "e"},
		{"far++; e += far", "e far", "e far"},
		{"b.W = 1", "", "W"},
		{"b.W++", "", "W"},
		{"b.V.X = 1", "", "V"},
		{"print(b.C); b.F(); main()", "", ""},
		{"_ = T{f: e}; _ = gen[int](1)", "", "e"},
	} {
		s := mains(t, "", c.stmts)
		block := s.block(t, "main")
		assigned, used := flow.Assigned(s.Result, s.path, block), flow.Used(s.Result, s.path, block)
		if s.sortedNames(assigned) != c.assigned || !rising(assigned) {
			t.Errorf("P15.4: in %s those are Assigned: %s %v, want %s", c.stmts, s.names(assigned), assigned, c.assigned)
		}
		if s.sortedNames(used) != c.used || !rising(used) {
			t.Errorf("P15.4: in %s those are Used: %s %v, want %s", c.stmts, s.names(used), used, c.used)
		}
	}
}

// Parameters and receivers are variables, too; types, constants and functions are none.
func TestUsedInDeclarations(t *testing.T) {
	s := mains(t, "type X struct { v int }; func (v X) g(w int, z X) (int, X) { const k = 1; type_ := k; w = type_; z.v = w; v.v++; return w, z }; const c = 1", "")
	for _, c := range []struct {
		what string
		got  []int
		want string
	}{
		{"Used", flow.Used(s.Result, s.path, s.tree), "e t t type_ u u v w z"},
		{"Assigned", flow.Assigned(s.Result, s.path, s.tree), "v w z"},
		{"Used elsewhere", flow.Used(s.Result, "main/z.gc", s.tree), ""},
		{"Assigned elsewhere", flow.Assigned(s.Result, "main/z.gc", s.tree), ""},
		{"Used of nothing", flow.Used(s.Result, s.path, api.Node{}), ""},
		{"Assigned of nothing", flow.Assigned(s.Result, s.path, api.Node{}), ""},
	} {
		if s.sortedNames(c.got) != c.want || !rising(c.got) {
			t.Errorf("P15.4: %s are %s %v, want %s", c.what, s.names(c.got), c.got, c.want)
		}
	}
	for _, n := range tree.Kids(s.tree, api.NodeType, api.NodeConst, api.NodeImport) {
		if got := flow.Used(s.Result, s.path, n); len(got) > 0 {
			t.Errorf("P15.4: Used in %s are %s", s.said(n), s.names(got))
		}
	}
}
