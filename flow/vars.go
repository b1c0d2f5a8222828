package flow

import (
	"slices"

	"recast/api"
)

// finding is the variables that a node, with so many FuncLits around it, is found to do something with.
type finding func(around int, n api.Node) []int

// gathered is all that is found in a tree.
func gathered(n api.Node, all ...finding) []int {
	var lists [][]int
	for around, x := range nodes(n) {
		for _, find := range all {
			lists = append(lists, find(around, x))
		}
	}
	return joined(lists...)
}

// joined is the numbers of lists, rising, each once.
func joined(lists ...[]int) []int {
	return slices.Compact(slices.Sorted(slices.Values(slices.Concat(lists...))))
}

// root is the variable that has the value of an expression as a part of its own.
func (k known) root(n api.Node) []int {
	switch n.Kind {
	case api.NodeIdent:
		if number, found := k.variable(n); found {
			return []int{number}
		}
	case api.NodeParen:
		return k.root(kid(n, 0))
	case api.NodeSelector:
		if _, found := k.meant(n, api.ObjField); found && k.isDirect(n) {
			return k.root(kid(n, 0))
		}
	}
	return nil
}

// isDirect tells whether a Selector leads to a field or method without a pointer on the way. (What is embedded is
// none: so it is just what stands ahead of the point that may be one.)
func (k known) isDirect(n api.Node) bool { return !k.isOf(kid(n, 0), api.TypePointer) }

// isUsed finds the variable that is used.
func (k known) isUsed(_ int, n api.Node) []int {
	if n.Kind != api.NodeIdent {
		return nil
	}
	return k.root(n)
}

// isCaptured finds those variables that are a package's, and those that are used within more FuncLits of a tree than
// they are declared in: none, if they are declared outside of it.
func (k known) isCaptured(root api.Node) finding {
	declared := map[int]int{} // how many FuncLits stand around an identifier
	for around, n := range nodes(root) {
		if n.Kind == api.NodeIdent {
			declared[n.From] = around
		}
	}
	return func(around int, n api.Node) []int {
		return slices.DeleteFunc(k.isUsed(around, n), func(number int) bool {
			o := k.object(number)
			return o.Level > 0 && around <= declared[o.At]
		})
	}
}

// isPointedTo finds the variable to which a pointer is made.
func (k known) isPointedTo(_ int, n api.Node) []int {
	switch n.Kind {
	case api.NodeUnary:
		if n.Text == "&" {
			return k.root(kid(n, 0))
		}
	case api.NodeSelector:
		if m, found := k.meant(n, api.ObjMethod); found && k.isDirect(n) && k.takesPointer(m) {
			return k.root(kid(n, 0))
		}
	}
	return nil
}

// isStored finds the variables that are stored, wholly or a part of them.
func (k known) isStored(_ int, n api.Node) []int {
	switch n.Kind {
	case api.NodeAssign:
		var lists [][]int
		for _, left := range kid(n, 0).Kids {
			lists = append(lists, k.root(left))
		}
		return slices.Concat(lists...)
	case api.NodeIncDec:
		return k.root(kid(n, 0))
	case api.NodeDefine:
		return k.old(kid(n, 0).Kids)
	}
	return nil
}

// old is those variables of a Define's that it does not declare.
func (k known) old(lefts []api.Node) []int {
	var out []int
	for _, left := range lefts {
		number, found := k.variable(left)
		if o := k.object(number); found && (o.Path != k.path || o.At != left.From) {
			out = append(out, number)
		}
	}
	return out
}
