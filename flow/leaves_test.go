package flow_test

import (
	"testing"

	"recast/api"
	"recast/flow"
	"recast/parse"
	"recast/tree"
)

// parsed is the Block of a function with these statements.
func parsed(t *testing.T, stmts string) api.Node {
	t.Helper()
	n, fault := parse.File("package a; func f() { " + stmts + " }")
	if fault.Code != 0 {
		t.Fatalf("%s: %v", stmts, fault)
	}
	return n.Kids[1].Kids[5]
}

func TestLeaves(t *testing.T) {
	for stmt, want := range map[string]bool{
		"return": true, "return 1, f()": true, "break": true, "continue": true,
		"x = 1": false, "f()": false, "panic(1)": false, "go f()": false, "defer f()": false, "var x = 1": false, "const x = 1": false, "{ }": false,
		"{ return }": true, "{ break }": true, "{ continue }": true, "{ x = 1; { f(); { return } } }": true,
		"if a { return }": true, "if a { } else { return }": true, "if a { } else if b { } else { break }": true, "if a { continue }": true, "if a := 1; a > 0 { f() } else { f() }": false,
		"for { break }": false, "for { continue }": false, "for { return }": true, "for { break; continue }": false, "for a := 1; a < 2; a++ { if a { break } else { continue } }": false,
		"for { { break }; { continue } }": false, "for { if a { return } }": true, "for { for { break; continue }; break; continue }": false, "for { for { return } }": true,
		"for range a { break; continue }": false, "for x, y := range a { return }": true, "for x := range a { for range x { continue }; break }": false,
		"switch a { case 1: break }": false, "switch a { case 1: continue }": true, "switch a { case 1: return }": true, "switch a { default: break }": false, "switch a { default: continue }": true, "switch a { case 1: f(); default: return }": true,
		"switch a { case 1: switch b { case 2: break }; break }": false, "switch a { case 1: { break; { continue } } }": true, "switch a { case 1: if b { break } }": false,
		"select { case <-c: break }": false, "select { case <-c: continue }": true, "select { case c <- 1: return }": true, "select { default: break }": false, "select { default: continue }": true, "select { case x := <-c: select { default: break }; break }": false,
		"for { switch 1 { default: continue } }": false, "for { switch 1 { default: break }; select { default: break } }": false, "for { select { default: continue } }": false, "for range a { switch 1 { default: select { case <-c: continue; default: break } } }": false, "for { switch 1 { default: return } }": true,
		"switch a { case 1: for { break; continue } }": false, "switch a { case 1: for { break; continue }; continue }": true, "switch a { case 1: for { break }; break }": false, "select { default: for { break; continue }; break }": false, "select { default: for range a { break }; continue }": true,
		"func() { return }()": false, "x := func() { for { break }; return }": false, "go func() { return }()": false, "defer func() { return }()": false, "for range 3 { func() { return }(); return }": true, "f(func() { return }, 1)": false,
		"if func() bool { return true }() { }": false, "if func() bool { return true }() { return }": true, "switch func() int { return 1 }() { case func() int { return 2 }(): }": false, "for func() bool { return true }() { }": false, "return func() { x = 1 }": true, "for range func() { return } { }": false,
	} {
		block := parsed(t, stmt)
		if len(block.Kids) != 1 {
			t.Fatalf("%s is no statement", stmt)
		}
		for _, n := range []api.Node{block.Kids[0], block} {
			if got := flow.Leaves(n); got != want {
				t.Errorf("P15.5: Leaves of %s is %v", stmt, got)
			}
		}
	}
}

// What a Break means hangs on where the part begins that is asked about.
func TestLeavesOfParts(t *testing.T) {
	stmt := parsed(t, "for { switch a { case 1: break; case 2: continue; case 3: f() }; break }").Kids[0]
	within := last(stmt)
	for what, c := range map[string]struct {
		n    api.Node
		want bool
	}{
		"the For": {stmt, false}, "its Block": {within, true}, "the Switch": {within.Kids[0], true}, "the first Case": {within.Kids[0].Kids[1], true}, "the second Case": {within.Kids[0].Kids[2], true}, "the third Case": {within.Kids[0].Kids[3], false}, "the Break": {within.Kids[1], true},
		"nothing": {api.Node{}, false},
	} {
		if got := flow.Leaves(c.n); got != c.want {
			t.Errorf("P15.5: Leaves of %s is %v", what, got)
		}
	}
	lit := parsed(t, "f(func() { return })").Kids[0].Kids[0].Kids[1]
	if flow.Leaves(lit) || !flow.Leaves(lit.Kids[2]) || !flow.Leaves(last(lit.Kids[2])) {
		t.Error("P15.5: Leaves of a FuncLit, or of what is in one")
	}
	file, _ := parse.File("package a; func f() { return }")
	if !flow.Leaves(file) || !flow.Leaves(file.Kids[1]) || flow.Leaves(file.Kids[0]) {
		t.Error("P15.5: Leaves of a file")
	}
}

func TestRecovers(t *testing.T) {
	for stmt, want := range map[string]bool{
		"defer g()": true, "defer func() { }()": true, "defer p.M(1)": true, "{ defer g() }": true, "if x > 0 { defer g() }": true, "for { if q { defer g() } }": true, "switch x { case 1: defer g() }": true, "select { case <-c: defer g() }": true,
		"recover()": true, "_ = recover()": true, "i = recover()": true, "if x > 0 { recover() }": true, "if recover() == nil { }": true, "print(recover() == nil)": true, "_ = (recover())": true, "_ = recover().(int)": true, "d := recover(); _ = d": true, "switch recover() { case nil: }": true, "for range []any{recover()} { }": true, "go h(recover().(int))": true,
		"x = 2": false, "go g()": false, "g()": false, "panic(1)": false, "_ = T{}": false, "k()": false, "return": false, "{ }": false, "print(1)": false, "b.F()": false, "_ = read()": false,
		"func() { defer g() }()": false, "func() { recover() }()": false, "go func() { defer func() { recover() }() }()": false, "_ = func() any { return recover() }": false, "func() { g() }(); recover()": true,
		"recover := g; _ = recover()": false, "recover := g; recover()": false, "var recover = g; _ = recover": false,
		"{ recover := g; recover() }; recover()": true,
	} {
		s, block := body(t, stmt)
		want := want
		if got := flow.Recovers(s.Result, s.path, block); got != want {
			t.Errorf("P15.5: Recovers of %s is %v", stmt, got)
		}
		some := false
		for _, x := range block.Kids {
			some = some || flow.Recovers(s.Result, s.path, x)
		}
		if some != want {
			t.Errorf("P15.5: Recovers of some statement of %s is %v", stmt, some)
		}
	}
}

func TestRecoversOfParts(t *testing.T) {
	s, block := body(t, "func() { recover(); func() { defer g() }() }()")
	lit := block.Kids[0].Kids[0].Kids[0]
	inner := last(last(lit)).Kids[0].Kids[0]
	for what, c := range map[string]struct {
		n    api.Node
		want bool
	}{
		"the statement": {block.Kids[0], false}, "the FuncLit": {lit, false}, "its Block": {last(lit), true}, "the call": {last(lit).Kids[0], true}, "the Ident": {last(lit).Kids[0].Kids[0].Kids[0], false},
		"the second statement": {last(lit).Kids[1], false}, "the FuncLit within": {inner, false}, "the Block of that": {last(inner), true},
		"nothing": {api.Node{}, false}, "the file": {s.tree, false},
	} {
		if got := flow.Recovers(s.Result, s.path, c.n); got != c.want {
			t.Errorf("P15.5: Recovers of %s is %v", what, got)
		}
	}
	if flow.Recovers(s.Result, "main/z.gc", last(lit)) {
		t.Error("P15.5: Recovers in a file that there is not")
	}
	s = mains(t, "func (u U) recover() {}; func re() any { return recover() }", "U{}.recover()")
	if flow.Recovers(s.Result, s.path, s.block(t, "main")) || !flow.Recovers(s.Result, s.path, s.block(t, "re")) || !flow.Recovers(s.Result, s.path, s.tree) {
		t.Error("P15.5: Recovers of a method of that name, of a function that recovers, or of a file")
	}
	for _, n := range tree.Kids(s.tree, api.NodeImport, api.NodeType, api.NodeVar, api.NodeConst) {
		if flow.Recovers(s.Result, s.path, n) {
			t.Errorf("P15.5: Recovers of %s", s.said(n))
		}
	}
}
