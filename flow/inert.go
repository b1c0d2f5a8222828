package flow

import (
	"slices"

	"recast/api"
	"recast/scope"
)

// rule tells of an expression, but not of its parts, whether evaluating it makes no difference.
type rule func(n api.Node) bool

// anyOf tells whether one of the rules holds.
func anyOf(rules ...rule) rule {
	return func(n api.Node) bool {
		return slices.ContainsFunc(rules, func(holds rule) bool { return holds(n) })
	}
}

// inertRules is the rules of what is inert, while variables of these numbers are shared.
func (k known) inertRules(shared []int) []rule {
	isQuiet := func(n api.Node) bool {
		number, found := k.variable(n)
		return found && k.object(number).Level > 0 && !slices.Contains(shared, number)
	}
	return []rule{isPlain, isQuiet, k.isConstant, k.isFixed, k.isReckoning, k.isComparison}
}

// isPlain tells of what is inert whatever types it is of.
func isPlain(n api.Node) bool {
	switch n.Kind {
	case api.NodeInt, api.NodeStr, api.NodeParen:
		return true
	case api.NodeUnary:
		return n.Text == "-" || n.Text == "!"
	case api.NodeBinary:
		return n.Text == "&&" || n.Text == "||"
	}
	return false
}

// isConstant tells of constants.
func (k known) isConstant(n api.Node) bool {
	x, _ := k.typed(n)
	return x.Const
}

// isFixed tells of an Ident that always means one value: a constant, nil or a function.
func (k known) isFixed(n api.Node) bool {
	number, found := k.stands(n)
	if found && number == ofUniverse {
		kind := scope.Universe(n.Text)
		return kind == api.ObjConst || kind == api.ObjVar // the only one of these is nil
	}
	_, found = k.meant(n, api.ObjConst, api.ObjFunc)
	return found && n.Kind == api.NodeIdent
}

// isReckoning tells of what is reckoned with ints and can't fail.
func (k known) isReckoning(n api.Node) bool {
	switch n.Text {
	case "+", "-", "*":
		return k.joins(n, api.TypeInt)
	}
	return false
}

// isComparison tells of values that are compared and can't but be comparable.
func (k known) isComparison(n api.Node) bool {
	switch n.Text {
	case "==", "!=", "<", "<=", ">", ">=":
		return k.joins(n, api.TypeInt, api.TypeString, api.TypeBool)
	}
	return false
}

// joins tells whether it is a Binary of two values of kinds.
func (k known) joins(n api.Node, kinds ...int) bool {
	return n.Kind == api.NodeBinary && k.isOf(kid(n, 0), kinds...) && k.isOf(kid(n, 1), kinds...)
}
