package tree_test

import (
	"slices"
	"testing"

	"recast/api"
	"recast/tree"
)

// claim notes each node of the lists, spare room too, and tells whether one was noted before.
func claim(seen map[*api.Node]int, lists ...[]api.Node) bool {
	free := true
	for _, l := range lists {
		whole := l[:cap(l)]
		for i := range whole {
			if seen[&whole[i]]++; seen[&whole[i]] > 1 {
				free = false
				continue
			}
			free = claim(seen, whole[i].Kids) && free
		}
	}
	return free
}

// answers is all lists that the calls answer of a tree, those that are told one by one too.
func answers(n api.Node) map[string][][]api.Node {
	var told [][]api.Node
	for _, x := range tree.All(n) {
		told = append(told, x.Kids)
	}
	out := map[string][][]api.Node{
		"All":    told,
		"Idents": {tree.Idents(n)},
		"Kids":   {tree.Kids(n, api.NodeIdent, api.NodeParen, api.NodeBinary, api.NodeNone)},
	}
	for from := range 4 {
		for to := range 4 {
			out["At"] = append(out["At"], tree.At(n, from, to))
		}
	}
	return out
}

// What is answered has no memory of what was handed in, and no two lists of it have any in common.
func TestNewMemory(t *testing.T) {
	for _, n := range append(forest(), node(api.NodeIdent, 0, 1, "a", node(api.NodeIdent, 0, 1, "b", node(api.NodeIdent, 0, 1, "c", example())))) {
		for what, lists := range answers(n) {
			seen := map[*api.Node]int{}
			if !claim(seen, n.Kids) {
				t.Fatalf("the tree itself shares memory")
			}
			if !claim(seen, lists...) {
				t.Fatalf("P4.6: what %s answers shares memory, of %s", what, show(n, false))
			}
		}
	}
}

// whole is a tree with what stands in the spare room of its lists.
func whole(n api.Node) string {
	out := show(n, false)
	for _, s := range spots(n) {
		for _, x := range s.n.Kids[len(s.n.Kids):cap(s.n.Kids)] {
			out += "+" + show(x, false)
		}
	}
	return out
}

func TestHandedInUnchanged(t *testing.T) {
	for _, n := range forest() {
		was := whole(n)
		kinds := append(make([]int, 0, 9), 7, api.NodeParen, 7, api.NodeIdent)
		room := slices.Clone(kinds[:9])
		tree.Kids(n, kinds...)
		for _, lists := range answers(n) {
			for _, l := range lists {
				for i := range l {
					l[i].Text = "changed"
					for j := range l[i].Kids {
						l[i].Kids[j] = node(-9, -9, -9, "changed")
					}
				}
				if len(l) > 0 {
					_ = append(l[:0], node(-9, -9, -9, "changed"))
				}
			}
		}
		tree.Size(n)
		tree.Depth(n)
		tree.Same(n, n)
		tree.Same(n, example())
		tree.Expr(n)
		tree.Stmt(n)
		if is := whole(n); is != was {
			t.Fatalf("P4.6: the tree was\n%s\nand is\n%s", was, is)
		}
		if !slices.Equal(kinds[:9], room) {
			t.Fatalf("P4.6: the kinds were changed: %v", kinds[:9])
		}
	}
}

// told is what All tells, each node with all that is within it.
func told(all func(func(int, api.Node) bool)) []api.Node {
	var out []api.Node
	for _, x := range all {
		out = append(out, x)
	}
	return out
}

// All keeps nothing of the tree: what becomes of it afterwards is not told.
func TestAllKeepsNothing(t *testing.T) {
	for _, n := range forest() {
		want := told(tree.All(n))
		early := tree.All(n)
		var spoil func(l []api.Node)
		spoil = func(l []api.Node) {
			for i := range l {
				spoil(l[i].Kids)
				l[i] = node(-9, -9, -9, "spoilt")
			}
		}
		spoil(n.Kids)
		same(t, "P4.6: All of a tree that was changed later", told(early), want)
	}
}

// Whoever changes a node that All told changes neither those that are told later nor the next going through.
func TestAllToldIsMine(t *testing.T) {
	for _, n := range forest() {
		want := told(tree.All(n))
		all := tree.All(n)
		for range 2 {
			i := 0
			for _, x := range all {
				same(t, "P4.6: All of which one changes what it tells", []api.Node{x}, want[i:i+1])
				for j := range x.Kids {
					for k := range x.Kids[j].Kids {
						x.Kids[j].Kids[k].Text = "mine"
					}
					x.Kids[j].Kind, x.Kids[j].Kids = -9, nil
				}
				i++
			}
		}
	}
}
