package flow_test

import (
	"slices"
	"strings"
	"testing"

	"recast/api"
	"recast/check"
	"recast/flow"
	"recast/module"
	"recast/tree"
)

// source is a file of a module that was checked, with its tree.
type source struct {
	check.Result
	path string
	text string
	tree api.Node
}

// checked is a file of a module, which must be right: path, text, path, text .., the asked one first.
func checked(t *testing.T, l ...string) source {
	t.Helper()
	var files []api.File
	for i := 0; i+1 < len(l); i += 2 {
		files = append(files, api.File{Path: l[i], Text: l[i+1]})
	}
	m, fault := module.Load(files)
	if fault.Code != 0 {
		t.Fatalf("%.2000s does not load: %v", l, fault)
	}
	r, fault := check.Module(m, nil)
	if fault.Code != 0 {
		t.Fatalf("%.2500s is not right: %v", l, fault)
	}
	n, _ := m.Tree(l[0])
	return source{r, l[0], l[1], n}
}

// head is declarations ahead of a function's body.
const head = `package main; import "b"
type N int
type S string
type U struct { h int }
func (u *U) P() int { return 1 }
func (u U) Q() int { return 1 }
type T struct { f int; U; n *T; k func() int; a []int }
func (t *T) M(n int) *T { return t }
func (t T) V() int { return 1 }
type R *T
type I interface { M(int) *T }
type J interface { M(int) *T; V() int }
const C = 3
var y int
var ys []int
func g() int { return 1 }
func h(n int) int { return n }
func two() (int, int) { return 1, 2 }
func many(l ...int) int { return 1 }
func gen[A any](a A) A { return a }
func sum[A int, B int|string](a A, m B, q bool) { _ = a; _ = m; _ = q; `

// beside is another package.
const beside = `package b
type E struct { X int }
const C = 4
const D = "d"
var W int
func F() int { return 1 }
func (e *E) P() {}
`

// locals is what a function's body begins with: all are used, and none is shared.
const locals = `x, x2 := 1, 2; m := N(1); s := "a"; w := S("b"); q := true; a := []int{1}; v := T{}; p := &T{}; r := R(p)
var i any; var e I = p; c := make(chan int, 1); k := g; var pp **T; var ks []func() int; be := b.E{}; var u U
_ = x; _ = x2; _ = m; _ = s; _ = w; _ = q; _ = a; _ = v; _ = p; _ = r; _ = i; _ = e; _ = c; _ = k; _ = pp; _ = ks; _ = be; _ = u
`

// body is a module of which the asked file has a function with these statements behind the locals, in which z is
// shared; and the Block in which they stand.
func body(t *testing.T, stmts string) (source, api.Node) {
	t.Helper()
	text := head + "}\nfunc main() {\n" + locals + "z := 1; zf := func() int { return z }; zs := T{}; zp := &zs; _ = zf; _ = zp; {\n" + stmts + "\n} }"
	s := checked(t, "main/a.gc", text, "b/b.gc", beside)
	return s, last(s.block(t, "main"))
}

// block is the Block of a function.
func (s source) block(t *testing.T, name string) api.Node {
	t.Helper()
	for _, n := range tree.Kids(s.tree, api.NodeFunc) {
		if n.Kids[1].Text == name {
			return n.Kids[5]
		}
	}
	t.Fatalf("there is no function %s in %s", name, s.text)
	return api.Node{}
}

// last is a node's last kid.
func last(n api.Node) api.Node { return n.Kids[len(n.Kids)-1] }

// shared is what Shared tells of the whole file.
func (s source) shared() []int { return flow.Shared(s.Result, s.tree, s.path) }

// said is the text of a node.
func (s source) said(n api.Node) string { return s.text[n.From:n.To] }

// names is the names of objects, as often as they stand there.
func (s source) names(numbers []int) string {
	var out []string
	for _, number := range numbers {
		out = append(out, s.Info.Objects[number].Name)
	}
	return strings.Join(out, " ")
}

// sortedNames is names put in the order of their letters.
func (s source) sortedNames(numbers []int) string {
	l := strings.Fields(s.names(numbers))
	slices.Sort(l)
	return strings.Join(l, " ")
}

// rising tells whether numbers rise, each standing once.
func rising(l []int) bool {
	return slices.IsSorted(l) && len(slices.Compact(slices.Clone(l))) == len(l)
}
