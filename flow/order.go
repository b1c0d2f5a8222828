package flow

import (
	"iter"

	"recast/api"
	"recast/tree"
)

// part is an expression that is evaluated as a part of something. sure: unless it is evaluated just perhaps.
type part struct {
	api.Node
	sure bool
}

// order is what is evaluated for a statement, or for an expression, in this order: each expression behind its parts,
// with whether it is sure to be.
func (k known) order(n api.Node) iter.Seq2[api.Node, bool] {
	return func(yield func(api.Node, bool) bool) {
		var walk func(n api.Node, sure bool) bool
		walk = func(n api.Node, sure bool) bool {
			for _, p := range k.parts(n) {
				if !walk(p.Node, sure && p.sure) {
					return false
				}
			}
			return !tree.Expr(n) || yield(n, sure)
		}
		walk(n, true)
	}
}

// surely is parts that are sure to be evaluated.
func surely(list ...api.Node) []part {
	var out []part
	for _, n := range list {
		out = append(out, part{n, true})
	}
	return out
}

// parts is what is evaluated of a statement, or of an expression ahead of itself, in this order.
func (k known) parts(n api.Node) []part {
	switch n.Kind {
	case api.NodeParen, api.NodeAssert, api.NodeUnary, api.NodeExprStmt, api.NodeIncDec, api.NodeSwitch:
		return surely(kid(n, 0))
	case api.NodeIndex, api.NodeSend, api.NodeReturn:
		return surely(n.Kids...)
	case api.NodeSelector:
		return k.partsOfSelector(n)
	case api.NodeBinary:
		return []part{{kid(n, 0), true}, {kid(n, 1), n.Text != "&&" && n.Text != "||"}}
	case api.NodeComposite:
		return partsOfComposite(n)
	case api.NodeCall:
		return k.partsOfCall(n)
	case api.NodeAssign:
		return k.partsOfAssign(n)
	case api.NodeDefine:
		return surely(kid(n, 1).Kids...)
	case api.NodeVar, api.NodeRange:
		return surely(kid(n, 2))
	case api.NodeGo, api.NodeDefer:
		return k.parts(kid(n, 0))
	case api.NodeIf:
		if kid(n, 0).Kind == api.NodeNone {
			return surely(kid(n, 1))
		}
	}
	return nil
}

// partsOfSelector is the parts of a Selector: behind a package it has none.
func (k known) partsOfSelector(n api.Node) []part {
	x := kid(n, 0)
	if _, found := k.meant(x, api.ObjPackage); found {
		return nil
	}
	return surely(x)
}

// partsOfComposite is the parts of a Composite.
func partsOfComposite(n api.Node) []part {
	var out []part
	for _, x := range n.Kids[min(1, len(n.Kids)):] {
		if x.Kind == api.NodeKeyed {
			x = kid(x, 1)
		}
		out = append(out, surely(x)...)
	}
	return out
}

// partsOfCall is the parts of a Call: what is called, if that is a value, and those arguments that are no types.
func (k known) partsOfCall(n api.Node) []part {
	var out []part
	for i, x := range n.Kids {
		_, isFunc := k.meant(x, api.ObjFunc)
		_, isMethod := k.meant(x, api.ObjMethod, api.ObjIMethod)
		switch {
		case i == 0 && isFunc || !k.isValue(x):
		case i == 0 && isMethod:
			out = append(out, surely(kid(x, 0))...)
		default:
			out = append(out, surely(x)...)
		}
	}
	return out
}

// partsOfAssign is the parts of an Assign.
func (k known) partsOfAssign(n api.Node) []part {
	var out []part
	for _, left := range kid(n, 0).Kids {
		if n.Text == "=" {
			out = append(out, k.partsOfPlace(left)...)
		} else {
			out = append(out, surely(left)...)
		}
	}
	return append(out, surely(kid(n, 1).Kids...)...)
}

// partsOfPlace is what is evaluated of what is assigned to. (The document does not name Parens there: so what is
// within them counts as evaluated perhaps.)
func (k known) partsOfPlace(left api.Node) []part {
	switch left.Kind {
	case api.NodeSelector, api.NodeIndex, api.NodeUnary:
		return k.parts(left)
	case api.NodeParen:
		out := k.partsOfPlace(kid(left, 0))
		for i := range out {
			out[i].sure = false
		}
		return out
	}
	return nil
}
