package flow

import (
	"iter"
	"slices"

	"recast/api"
)

// kid is a node's kid of a number; one of no kind, if it has not so many.
func kid(n api.Node, i int) api.Node {
	if i >= len(n.Kids) {
		return api.Node{}
	}
	return n.Kids[i]
}

// nodes goes through all nodes of a tree, each with how many FuncLits of the tree stand around it.
func nodes(n api.Node) iter.Seq2[int, api.Node] {
	return func(yield func(int, api.Node) bool) {
		var walk func(around int, n api.Node) bool
		walk = func(around int, n api.Node) bool {
			if !yield(around, n) {
				return false
			}
			if n.Kind == api.NodeFuncLit {
				around++
			}
			return !slices.ContainsFunc(n.Kids, func(x api.Node) bool { return !walk(around, x) })
		}
		walk(0, n)
	}
}

// exits is what a Break and a Continue mean where they stand: something in the tree, or what is around it.
type exits struct {
	breaks, continues bool
}

// leaves tells whether control leaves the tree in which a node stands.
func leaves(n api.Node, caught exits) bool {
	switch n.Kind {
	case api.NodeFuncLit:
		return false
	case api.NodeReturn:
		return true
	case api.NodeBreak:
		return !caught.breaks
	case api.NodeContinue:
		return !caught.continues
	case api.NodeFor, api.NodeRange:
		caught = exits{breaks: true, continues: true}
	case api.NodeSwitch, api.NodeSelect:
		caught.breaks = true
	}
	return slices.ContainsFunc(n.Kids, func(x api.Node) bool { return leaves(x, caught) })
}
