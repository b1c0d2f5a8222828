package flow_test

import (
	"fmt"
	"strings"
	"testing"
	"time"

	"recast/api"
	"recast/flow"
	"recast/tree"
)

// soon wants something to be done before long.
func soon(t *testing.T, what string, do func()) {
	t.Helper()
	begin := time.Now()
	do()
	if took := time.Since(begin); took > 30*time.Second {
		t.Errorf("%s takes %v", what, took)
	}
}

// repeated is a text so many times, with the number put in for each #.
func repeated(n int, text string) string {
	var b strings.Builder
	for i := range n {
		b.WriteString(strings.ReplaceAll(text, "#", fmt.Sprint(i)))
	}
	return b.String()
}

// A file may have as many variables as it has room for, and all of them may be shared.
func TestManyVariables(t *testing.T) {
	n := 1600
	s := checked(t, "main/a.gc", "package main; func main() {\n"+repeated(n, "v# := 1; w# := &v#; _ = w#\n")+"}")
	soon(t, "asking of many variables", func() {
		if got := len(s.shared()); got != n {
			t.Errorf("P15.1: %d are shared", got)
		}
		if got := len(flow.Used(s.Result, s.path, s.tree)); got != 2*n {
			t.Errorf("P15.4: %d are used", got)
		}
		if got := len(flow.Assigned(s.Result, s.path, s.tree)); got != 0 {
			t.Errorf("P15.4: %d are assigned", got)
		}
	})
	shared := s.shared()
	soon(t, "asking of many statements", func() {
		inert := 0
		for _, stmt := range s.block(t, "main").Kids {
			if stmt.Kind == api.NodeAssign && flow.Inert(s.Result, s.path, shared, last(stmt).Kids[0]) {
				inert++
			}
		}
		if inert != n {
			t.Errorf("P15.2: %d are Inert", inert)
		}
	})
}

// Types may have many fields and methods, and stand in long rows.
func TestGreatTypes(t *testing.T) {
	n := 1000
	s := checked(t, "main/a.gc", "package main; func main() {\n"+repeated(n, "v# := T#{}; v#.f# = 1; v#.M(); u.M#(); u.N#()\n")+"}\nvar u U",
		"main/b.gc", "package main; type T struct {\n"+repeated(n, "f# int\n")+"}\nfunc (t *T) M() {}\n"+repeated(n, "type T# struct { T }\n")+"type U struct {}",
		"main/c.gc", "package main\n"+repeated(n, "func (u *U) M#() {}\nfunc (u U) N#() {}\n"))
	soon(t, "asking of great types", func() {
		if got := len(s.shared()); got != n+1 {
			t.Errorf("P15.1: %d are shared", got)
		}
		if got := len(flow.Assigned(s.Result, s.path, s.tree)); got != n {
			t.Errorf("P15.4: %d are assigned", got)
		}
	})
	// Each type is declared as the next one.
	rows := func(name, end string) string {
		var b strings.Builder
		for i := range n {
			fmt.Fprintf(&b, "type %s%d %s%d\n", name, i, name, i+1)
		}
		return "package main\n" + b.String() + fmt.Sprintf("type %s%d %s", name, n, end)
	}
	s = checked(t, "main/a.gc", "package main; func main() {\n"+repeated(n, "v# := T0{}; v#.f = 1; w# := R0(nil); w#.f++\n")+"}",
		"main/b.gc", rows("T", "struct { f int }"), "main/c.gc", rows("R", "*T0"))
	soon(t, "asking of long rows", func() {
		if got := len(s.shared()); got != 0 {
			t.Errorf("P15.1: %d are shared", got)
		}
		if got := len(flow.Assigned(s.Result, s.path, s.tree)); got != n {
			t.Errorf("P15.4: %d are assigned", got)
		}
	})
}

// An expression may have as many parts within one another as a tree may.
func TestDeep(t *testing.T) {
	n := api.MaxNest - 8
	for text, want := range map[string]bool{
		strings.Repeat("(", n) + "x" + strings.Repeat(")", n):           true,
		strings.Repeat("(", n) + "y" + strings.Repeat(")", n):           false,
		strings.Repeat("-(", n/2) + "x" + strings.Repeat(")", n/2):      true,
		strings.Repeat("x + (", n/2) + "x" + strings.Repeat(")", n/2):   true,
		strings.Repeat("x + (", n/2) + "g()" + strings.Repeat(")", n/2): false,
		"x" + strings.Repeat(" + x", n):                                 true,
		"x" + strings.Repeat(" + x", n-1) + " / x":                      false,
	} {
		s := checked(t, "main/a.gc", "package main; var y = 1; func g() int { return 1 }; func main() { x := 1; _ = "+text+"; _ = x }")
		stmt := s.block(t, "main").Kids[1]
		e := last(stmt).Kids[0]
		if tree.Depth(s.tree) < api.MaxNest-10 {
			t.Errorf("the tree is %d deep", tree.Depth(s.tree))
		}
		if got := flow.Inert(s.Result, s.path, nil, e); got != want {
			t.Errorf("P15.2: Inert of %s is %v", text, got)
		}
		for _, x := range tree.All(e) {
			if got := flow.First(s.Result, s.path, nil, stmt, x); !got && tree.Expr(x) && want {
				t.Errorf("P15.3: First of %s in %s is false", s.said(x), text)
			}
		}
	}
	// FuncLits within one another.
	n = 45
	s := checked(t, "main/a.gc", "package main; func main() { v := 1; "+strings.Repeat("func() { ", n)+"v++; w := 1; _ = w; return"+strings.Repeat(" }()", n)+" }")
	if got := s.names(s.shared()); got != "v" {
		t.Errorf("P15.1: shared are %s", got)
	}
	if got := s.names(flow.Assigned(s.Result, s.path, s.tree)); got != "v" || flow.Leaves(s.tree) {
		t.Errorf("P15.4: assigned are %s, and Leaves is %v", got, flow.Leaves(s.tree))
	}
}
