package tree_test

import (
	"fmt"
	"math"
	"slices"
	"testing"

	"recast/api"
	"recast/tree"
)

func TestExamples(t *testing.T) {
	n := example()
	a, paren := n.Kids[0], n.Kids[1]
	b := paren.Kids[0]
	if tree.Size(n) != 4 || tree.Depth(n) != 3 {
		t.Errorf("P4.1: Size %d, Depth %d", tree.Size(n), tree.Depth(n))
	}
	same(t, "P4.4: Idents", tree.Idents(n), []api.Node{a, b})
	same(t, "P4.3: At 3 4", tree.At(n, 3, 4), []api.Node{n, paren, b})
	same(t, "P4.3: At 0 2", tree.At(n, 0, 2), nil)
	same(t, "P4.4: Kids", tree.Kids(n, api.NodeParen), []api.Node{paren})
	var deeps []int
	var told []api.Node
	for deep, x := range tree.All(n) {
		deeps, told = append(deeps, deep), append(told, x)
	}
	same(t, "P4.1: All", told, []api.Node{n, a, paren, b})
	if !slices.Equal(deeps, []int{0, 1, 1, 2}) {
		t.Errorf("P4.1: All tells the depths %v", deeps)
	}
}

func TestAll(t *testing.T) {
	for _, n := range forest() {
		all, told := spots(n), tree.All(n)
		for range 2 { // it can be gone through as often as one likes
			i := 0
			for deep, x := range told {
				if i >= len(all) {
					t.Fatalf("P4.1: All tells more than %d nodes of %s", len(all), show(n, false))
				}
				if deep != len(all[i].way) {
					t.Fatalf("P4.1: All tells the depth %d of node %d of %s", deep, i, show(n, false))
				}
				same(t, fmt.Sprintf("P4.1: node %d of %s", i, show(n, false)), []api.Node{x}, []api.Node{all[i].n})
				i++
			}
			if i != len(all) {
				t.Fatalf("P4.1: All tells %d nodes of %s", i, show(n, false))
			}
		}
		depth := 0
		for _, s := range all {
			depth = max(depth, len(s.way)+1)
		}
		if tree.Size(n) != len(all) || tree.Depth(n) != depth {
			t.Fatalf("P4.1: Size %d, Depth %d, not %d, %d, of %s", tree.Size(n), tree.Depth(n), len(all), depth, show(n, false))
		}
	}
}

// All is left at each of its nodes: nothing is told behind it, and nothing goes wrong.
func TestAllStopped(t *testing.T) {
	for _, n := range []api.Node{{}, example(), chain(30), wide(30), any20()} {
		size := tree.Size(n)
		for stop := 1; stop <= size; stop++ {
			var told []api.Node
			tree.All(n)(func(_ int, x api.Node) bool {
				told = append(told, x)
				return len(told) < stop
			})
			var want []api.Node
			for _, s := range spots(n)[:stop] {
				want = append(want, s.n)
			}
			same(t, fmt.Sprintf("P4.1: All stopped at %d", stop), told, want)
			seen := 0
			for range tree.All(n) {
				if seen++; seen == stop {
					break
				}
			}
			if seen != stop {
				t.Fatalf("P4.1: All left at %d has told %d", stop, seen)
			}
		}
	}
}

// One iterator gone through within itself tells all in both.
func TestAllWithinAll(t *testing.T) {
	all := tree.All(example())
	var seen []int
	for deep := range all {
		for inner, x := range all {
			seen = append(seen, deep*10+inner)
			if x.Kind == api.NodeParen {
				break
			}
		}
	}
	if want := []int{0, 1, 1, 10, 11, 11, 10, 11, 11, 20, 21, 21}; !slices.Equal(seen, want) {
		t.Errorf("P4.1: %v, not %v", seen, want)
	}
}

func TestSizeDepth(t *testing.T) {
	for _, c := range []struct {
		what        string
		n           api.Node
		size, depth int
	}{
		{"nothing", api.Node{}, 1, 1},
		{"no kids, in an empty list", api.Node{Kids: []api.Node{}}, 1, 1},
		{"no kids, but room for some", api.Node{Kids: make([]api.Node, 0, 5)}, 1, 1},
		{"one kid", node(1, 0, 0, "", api.Node{}), 2, 2},
		{"two kids", node(1, 0, 0, "", api.Node{}, api.Node{}), 3, 2},
		{"the deepest of a source", chain(api.MaxNest), api.MaxNest, api.MaxNest},
		{"one deeper", chain(api.MaxNest + 1), api.MaxNest + 1, api.MaxNest + 1},
		{"deep", chain(50000), 50000, 50000},
		{"wide", wide(100000), 100001, 2},
		{"deepest at its first kid", node(1, 0, 0, "", chain(7), chain(3), api.Node{}), 12, 8},
		{"deepest in its midst", node(1, 0, 0, "", chain(3), chain(7), api.Node{}), 12, 8},
		{"deepest at its last kid", node(1, 0, 0, "", api.Node{}, chain(3), chain(7)), 12, 8},
	} {
		if size, depth := tree.Size(c.n), tree.Depth(c.n); size != c.size || depth != c.depth {
			t.Errorf("P4.1: %s: Size %d, Depth %d, not %d, %d", c.what, size, depth, c.size, c.depth)
		}
	}
	told := 0
	for deep, x := range tree.All(chain(2000)) {
		if deep != told || tree.Size(x) != 2000-told {
			t.Fatalf("P4.1: node %d of a chain: depth %d, size %d", told, deep, tree.Size(x))
		}
		told++
	}
	if told != 2000 {
		t.Errorf("P4.6: All tells %d nodes of a chain", told)
	}
	told = 0
	for range tree.All(wide(100000)) {
		told++
	}
	if told != 100001 {
		t.Errorf("P4.6: All tells %d nodes of a wide tree", told)
	}
}

func TestSame(t *testing.T) {
	type change struct {
		what string
		same bool
		make func(x *api.Node)
	}
	changes := []change{
		{"nothing", true, func(x *api.Node) {}},
		{"From", true, func(x *api.Node) { x.From += 7 }},
		{"To", true, func(x *api.Node) { x.To -= 7 }},
		{"From and To at their ends", true, func(x *api.Node) { x.From, x.To = math.MinInt, math.MaxInt }},
		{"Kind", false, func(x *api.Node) { x.Kind++ }},
		{"Text", false, func(x *api.Node) { x.Text += "x" }},
		{"Text, a byte 0", false, func(x *api.Node) { x.Text += "\x00" }},
		{"a kid more", false, func(x *api.Node) { x.Kids = append(slices.Clone(x.Kids), api.Node{}) }},
		{"an empty list of kids for none", true, func(x *api.Node) {
			if x.Kids == nil {
				x.Kids = []api.Node{}
			}
		}},
	}
	for _, n := range []api.Node{{}, example(), chain(20), wide(20), any20()} {
		for i := range tree.Size(n) {
			for _, c := range changes {
				o := dressed(n, func(j int, x *api.Node) {
					if i == j {
						c.make(x)
					}
				})
				if tree.Same(n, o) != c.same || tree.Same(o, n) != c.same {
					t.Fatalf("P4.2: Same is %v with %s changed at node %d of %s", tree.Same(n, o), c.what, i, show(n, false))
				}
			}
		}
	}
	if a := chain(50000); !tree.Same(a, a) || tree.Same(a, chain(50001)) || tree.Same(chain(49999), a) {
		t.Errorf("P4.2: deep trees")
	}
	if tree.Same(wide(100000), wide(99999)) || !tree.Same(wide(100000), wide(100000)) {
		t.Errorf("P4.2: wide trees")
	}
	x, y, z := node(1, 0, 0, ""), node(2, 0, 0, ""), node(3, 0, 0, "")
	for _, c := range [][2]api.Node{
		{node(0, 0, 0, "", x, y), node(0, 0, 0, "", y, x)},
		{node(0, 0, 0, "", x, y, z), node(0, 0, 0, "", x, y)},
		{node(0, 0, 0, "", x, y, z), node(0, 0, 0, "", y, z)},
		{node(0, 0, 0, "", node(1, 0, 0, "", y), z), node(0, 0, 0, "", x, y, z)},
		{node(0, 0, 0, "", node(1, 0, 0, "", y), z), node(0, 0, 0, "", x, node(2, 0, 0, "", z))},
		{node(0, 0, 0, "ab", node(0, 0, 0, "")), node(0, 0, 0, "a", node(0, 0, 0, "b"))},
		{node(40, 0, 1, "a"), node(40, 0, 1, "A")},
	} {
		if tree.Same(c[0], c[1]) || tree.Same(c[1], c[0]) {
			t.Errorf("P4.2: %s is the same as %s", show(c[0], false), show(c[1], false))
		}
	}
}

// Each tree against each: they are the same just if what is told of them, places left out, is.
func TestSamePairs(t *testing.T) {
	l := forest()[4:900]
	for i, a := range l {
		for _, b := range l[i : i+1+(len(l)-i)/4] {
			if got, want := tree.Same(a, b), show(a, true) == show(b, true); got != want {
				t.Fatalf("P4.2: Same is %v of %s and %s", got, show(a, false), show(b, false))
			}
		}
	}
}

func TestAt(t *testing.T) {
	for _, n := range forest() {
		spans := [][2]int{{math.MinInt, math.MaxInt}, {-1, -1}, {1000, 1001}}
		for from := range 4 {
			for to := range 4 {
				spans = append(spans, [2]int{from, to})
			}
		}
		for _, s := range spans {
			same(t, fmt.Sprintf("P4.3: At %d %d of %s", s[0], s[1], show(n, false)), tree.At(n, s[0], s[1]), secondAt(n, s[0], s[1]))
		}
	}
}

func TestAtCases(t *testing.T) {
	n := func(text string, from, to int, kids ...api.Node) api.Node { return node(1, from, to, text, kids...) }
	for _, c := range []struct {
		what     string
		n        api.Node
		from, to int
		want     string
	}{
		{"the root", n("r", 2, 9), 2, 9, "r"},
		{"only From", n("r", 2, 9), 2, 8, ""},
		{"only To", n("r", 2, 9), 3, 9, ""},
		{"the two turned round", n("r", 2, 9), 9, 2, ""},
		{"one within the other: the innermost", n("r", 0, 3, n("a", 0, 3, n("b", 0, 3))), 0, 3, "rab"},
		{"one between is none", n("r", 0, 3, n("a", 1, 2, n("b", 0, 3))), 0, 3, "rab"},
		{"the innermost has others within it", n("r", 0, 3, n("a", 0, 3, n("b", 1, 3))), 0, 3, "ra"},
		{"two beside one another: the first", n("r", 0, 9, n("a", 0, 3), n("b", 0, 3)), 0, 3, "ra"},
		{"the second one is deeper", n("r", 0, 9, n("a", 0, 3), n("b", 0, 3, n("c", 0, 3))), 0, 3, "ra"},
		{"the first one is deeper", n("r", 0, 9, n("a", 1, 1, n("b", 0, 3)), n("c", 0, 3)), 0, 3, "rab"},
		{"both within one that has it", n("r", 0, 3, n("a", 0, 3), n("b", 0, 3, n("c", 0, 3))), 0, 3, "ra"},
		{"behind others", n("r", 0, 9, n("a", 0, 1, n("b", 0, 1)), n("c", 1, 9, n("d", 1, 2), n("e", 2, 9))), 2, 9, "rce"},
		{"no bytes", n("r", 0, 9, n("a", 4, 4), n("b", 4, 9)), 4, 4, "ra"},
		{"not within the bytes of the last", n("r", 0, 9, n("a", 5, 9, n("none", 0, 0))), 0, 0, "ranone"},
		{"behind the bytes of the last", n("r", 0, 4, n("a", 2, 4, n("b", 9, 9))), 9, 9, "rab"},
		{"nothing like it", n("r", 0, 4, n("a", 2, 4, n("b", 3, 4))), 2, 3, ""},
		{"numbers below 0", n("r", -5, -2, n("a", -4, -2)), -4, -2, "ra"},
	} {
		got := ""
		for _, x := range tree.At(c.n, c.from, c.to) {
			got += x.Text
		}
		if got != c.want {
			t.Errorf("P4.3: %s: %q, not %q", c.what, got, c.want)
		}
	}
	deep := chain(api.MaxNest)
	for i := 1; i <= api.MaxNest; i++ {
		if l := tree.At(deep, i, 2*api.MaxNest-i+1); len(l) != i || l[i-1].From != i || tree.Size(l[i-1]) != api.MaxNest-i+1 {
			t.Errorf("P4.3: %d nodes down to node %d of a chain", len(l), i)
		}
	}
	if l := tree.At(wide(100000), 99999, 100000); len(l) != 2 || l[1].Text != "99999" {
		t.Errorf("P4.3: %d nodes down to the last kid of a wide tree", len(l))
	}
}

func TestIdentsKids(t *testing.T) {
	for _, n := range forest() {
		var want []api.Node
		for _, s := range spots(n) {
			if s.n.Kind == api.NodeIdent {
				want = append(want, s.n)
			}
		}
		same(t, "P4.4: Idents of "+show(n, false), tree.Idents(n), want)
		for _, kinds := range [][]int{nil, {}, {api.NodeIdent}, {api.NodeParen}, {api.NodeParen, api.NodeIdent}, {api.NodeIdent, api.NodeIdent}, {0, -1, 99, math.MaxInt, math.MinInt}, {api.NodeInt}} {
			var want []api.Node
			for _, k := range n.Kids {
				for _, kind := range kinds {
					if kind == k.Kind {
						want = append(want, k)
						break
					}
				}
			}
			same(t, fmt.Sprintf("P4.4: Kids %v of %s", kinds, show(n, false)), tree.Kids(n, kinds...), want)
		}
	}
	alone := node(api.NodeIdent, 0, 1, "a")
	same(t, "P4.4: Idents of an Ident", tree.Idents(alone), []api.Node{alone})
	same(t, "P4.4: Kids of an Ident", tree.Kids(alone, api.NodeIdent), nil)
	within := node(api.NodeIdent, 0, 3, "a", node(api.NodeParen, 1, 3, "", node(api.NodeIdent, 1, 2, "b")))
	same(t, "P4.4: an Ident within an Ident", tree.Idents(within), []api.Node{within, within.Kids[0].Kids[0]})
	same(t, "P4.4: Kids are not those within them", tree.Kids(within, api.NodeIdent), nil)
	if l := tree.Idents(wide(90000)); len(l) != 30000 || l[29999].Text != "89997" {
		t.Errorf("P4.4: %d Idents of a wide tree", len(l))
	}
}

func TestExprStmt(t *testing.T) {
	exprs := []int{api.NodeIdent, api.NodeSelector, api.NodeInt, api.NodeStr, api.NodeParen, api.NodeFuncLit, api.NodeComposite, api.NodeCall, api.NodeIndex, api.NodeAssert, api.NodeUnary, api.NodeBinary}
	stmts := []int{api.NodeVar, api.NodeConst, api.NodeBlock, api.NodeExprStmt, api.NodeSend, api.NodeAssign, api.NodeDefine, api.NodeIncDec, api.NodeGo, api.NodeDefer, api.NodeReturn, api.NodeBreak, api.NodeContinue, api.NodeIf, api.NodeFor, api.NodeRange, api.NodeSwitch, api.NodeSelect}
	kinds := []int{math.MinInt, math.MinInt + 1, math.MaxInt - 1, math.MaxInt, 1<<32 + api.NodeIdent, 1<<32 + api.NodeBlock, 256 + api.NodeIdent, -api.NodeIdent, -api.NodeBlock}
	for k := -300; k <= 300; k++ {
		kinds = append(kinds, k)
	}
	for _, k := range kinds {
		for _, n := range []api.Node{{Kind: k}, node(k, 3, 9, "x", example(), node(api.NodeBlock, 0, 0, ""))} {
			if got, want := tree.Expr(n), slices.Contains(exprs, k); got != want {
				t.Errorf("P4.5: Expr of the kind %d is %v", k, got)
			}
			if got, want := tree.Stmt(n), slices.Contains(stmts, k); got != want {
				t.Errorf("P4.5: Stmt of the kind %d is %v", k, got)
			}
		}
	}
}
