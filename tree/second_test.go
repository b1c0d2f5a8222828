package tree_test

import (
	"fmt"
	"math/rand/v2"
	"slices"
	"strings"
	"testing"

	"recast/api"
)

// node is one node of a tree.
func node(kind, from, to int, text string, kids ...api.Node) api.Node {
	return api.Node{Kind: kind, From: from, To: to, Text: text, Kids: kids}
}

// example is the tree of the chapter's examples: a + (b).
func example() api.Node {
	return node(api.NodeBinary, 0, 5, "+",
		node(api.NodeIdent, 0, 1, "a"),
		node(api.NodeParen, 2, 5, "", node(api.NodeIdent, 3, 4, "b")))
}

// chain is nodes of which each but the last has one kid.
func chain(n int) api.Node {
	x := node(api.NodeIdent, n, n+1, "x")
	for i := n - 1; i >= 1; i-- {
		x = node(api.NodeParen, i, 2*n-i+1, "", x)
	}
	return x
}

// wide is a node with so many kids, every third of them an Ident.
func wide(kids int) api.Node {
	x := node(api.NodeExprs, 0, kids, "")
	for i := range kids {
		x.Kids = append(x.Kids, node([]int{api.NodeIdent, api.NodeInt, api.NodeStr}[i%3], i, i+1, fmt.Sprint(i)))
	}
	return x
}

// spot is a node and the way down to it: the number of the kid to take at each step.
type spot struct {
	way []int
	n   api.Node
}

// spots is the second reading of P4.1: all nodes by the ways down to them, which All's order sorts
// (a way ahead of those that go on from it, else by the first step that differs).
func spots(n api.Node) []spot {
	all := []spot{{nil, n}}
	for i := 0; i < len(all); i++ {
		for j, k := range all[i].n.Kids {
			all = append(all, spot{append(slices.Clone(all[i].way), j), k})
		}
	}
	slices.SortFunc(all, func(a, b spot) int { return slices.Compare(a.way, b.way) })
	return all
}

// isWithin tells whether b stands within a.
func isWithin(a, b spot) bool {
	return len(b.way) > len(a.way) && slices.Equal(a.way, b.way[:len(a.way)])
}

// secondAt reads P4.3 as it stands: of the nodes of this span those that no other one is within, and of them the first.
func secondAt(n api.Node, from, to int) []api.Node {
	var have []spot
	for _, s := range spots(n) {
		if s.n.From == from && s.n.To == to {
			have = append(have, s)
		}
	}
	for _, s := range have {
		if slices.ContainsFunc(have, func(o spot) bool { return isWithin(s, o) }) {
			continue
		}
		out := []api.Node{n}
		for i, j := range s.way {
			out = append(out, out[i].Kids[j])
		}
		return out
	}
	return nil
}

// show tells a node with all that is within it; with no places if bare.
func show(n api.Node, bare bool) string {
	var b strings.Builder
	var put func(n api.Node)
	put = func(n api.Node) {
		if fmt.Fprintf(&b, "%d %q", n.Kind, n.Text); !bare {
			fmt.Fprintf(&b, " %d-%d", n.From, n.To)
		}
		b.WriteString("(")
		for _, k := range n.Kids {
			put(k)
		}
		b.WriteString(")")
	}
	put(n)
	return b.String()
}

func shows(l []api.Node) string {
	out := ""
	for _, n := range l {
		out += show(n, false) + "\n"
	}
	return out
}

// same tells where two lists of nodes differ.
func same(t *testing.T, what string, got, want []api.Node) {
	t.Helper()
	if g, w := shows(got), shows(want); g != w {
		t.Fatalf("%s:\n got\n%s\nwant\n%s", what, g, w)
	}
}

// shapes is all trees of so many nodes, as far as who is within whom goes.
func shapes(n int) []api.Node {
	var out []api.Node
	for _, kids := range forests(n - 1) {
		out = append(out, api.Node{Kids: kids})
	}
	return out
}

func forests(n int) [][]api.Node {
	if n == 0 {
		return [][]api.Node{nil}
	}
	var out [][]api.Node
	for first := 1; first <= n; first++ {
		for _, head := range shapes(first) {
			for _, rest := range forests(n - first) {
				out = append(out, append([]api.Node{head}, rest...))
			}
		}
	}
	return out
}

// dressed is a copy of the tree whose nodes are, in order, what put makes of them; its lists have spare room.
func dressed(n api.Node, put func(i int, x *api.Node)) api.Node {
	i := 0
	var walk func(x api.Node) api.Node
	walk = func(x api.Node) api.Node {
		put(i, &x)
		i++
		kids := make([]api.Node, 0, len(x.Kids)+3)
		for _, k := range x.Kids {
			kids = append(kids, walk(k))
		}
		for j := range kids[len(kids):cap(kids)] {
			kids[len(kids):cap(kids)][j] = node(99, j, -j, "spare")
		}
		x.Kids = kids
		return x
	}
	return walk(n)
}

// grown is a tree of some nodes that hang on the random source alone.
func grown(r *rand.Rand, size int) api.Node {
	kinds := []int{api.NodeIdent, api.NodeIdent, api.NodeParen, api.NodeBinary, api.NodeNone, 0, -1, 99}
	n := shapes(1)[0]
	for range size - 1 {
		at := &n
		for len(at.Kids) > 0 && r.IntN(4) > 0 {
			at = &at.Kids[r.IntN(len(at.Kids))]
		}
		at.Kids = append(at.Kids, api.Node{})
	}
	return dressed(n, func(_ int, x *api.Node) {
		x.Kind, x.From, x.To, x.Text = kinds[r.IntN(len(kinds))], r.IntN(4), r.IntN(4), []string{"", "a", "b"}[r.IntN(3)]
	})
}

// any20 is a tree of 20 nodes of no shape in particular.
func any20() api.Node {
	return grown(rand.New(rand.NewPCG(20, 4)), 20)
}

// forest is trees for all promises: every shape of few nodes, and greater ones of any shape.
func forest() []api.Node {
	out := []api.Node{{}, example(), chain(api.MaxNest), wide(100)}
	r := rand.New(rand.NewPCG(4, 4))
	for size := 1; size <= 6; size++ {
		for _, s := range shapes(size) {
			for range 10 {
				out = append(out, dressed(s, func(_ int, x *api.Node) {
					x.Kind, x.From, x.To, x.Text = []int{api.NodeIdent, api.NodeParen}[r.IntN(2)], r.IntN(2), r.IntN(2), []string{"", "a"}[r.IntN(2)]
				}))
			}
		}
	}
	for i := range 500 {
		out = append(out, grown(r, 1+i%40))
	}
	return out
}
