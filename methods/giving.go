package methods

import (
	"slices"

	"recast/api"
	"recast/exact"
	"recast/types"
)

// anyComparable is the N of a union that stands for all types that may be compared.
const anyComparable = 1

// anyOf tells whether one of several rules holds. Those behind it are not asked.
func anyOf(rules ...func() bool) bool {
	return slices.ContainsFunc(rules, func(rule func() bool) bool { return rule() })
}

// isOf is the question whether a type is of one of these kinds.
func isOf(kinds ...int) func(t api.Type) bool {
	return func(t api.Type) bool { return slices.Contains(kinds, t.Kind) }
}

// untyped tells whether a type is that of a constant without one.
func untyped(t api.Type) bool {
	return isOf(api.TypeConstInt, api.TypeConstStr, api.TypeConstBool)(t)
}

// noValue tells whether a type is one that nothing which keeps a value can have.
func noValue(t api.Type) bool {
	return untyped(t) || isOf(api.TypeNil, api.TypeTuple)(t)
}

// named tells whether a type has a name by which it is told from all that are alike.
func named(t api.Type) bool {
	return isOf(api.TypeNamed, api.TypeInt, api.TypeString, api.TypeBool)(t)
}

// Assignable tells whether v may be given to t.
func Assignable(w *types.World, v, t api.Type, c *api.Const) bool {
	open := func(x api.Type) bool { return noValue(x) || isOf(api.TypeParam)(x) }
	return anyOf(
		func() bool { return !noValue(v) && types.Identical(v, t) },
		func() bool { return !open(v) && !open(t) && !(named(v) && named(t)) && alikeUnder(w, v, t) },
		func() bool { return !noValue(v) && Implements(w, v, t) },
		func() bool { return isOf(api.TypeNil)(v) && w.Nilable(t) },
		func() bool { return untyped(v) && constantGiven(w, v, t, c) },
	)
}

// alikeUnder tells whether two types are identical underneath.
func alikeUnder(w *types.World, v, t api.Type) bool {
	return types.Identical(under(w, v), under(w, t))
}

// constantGiven tells whether a constant of a type v without one may be given to t.
func constantGiven(w *types.World, v, t api.Type, c *api.Const) bool {
	if c == nil && v.Kind != api.TypeConstBool {
		return false
	}
	// A truth value that is not known fits where any does.
	value := api.Const{Kind: api.TypeBool}
	if c != nil {
		value = *c
	}
	fits := func(x api.Type) bool { return Fits(value, x) }
	if t.Kind == api.TypeParam {
		return w.Each(t, fits)
	}
	own := types.Default(v)
	return anyOf(
		func() bool { return fits(under(w, t)) },
		func() bool { return fits(own) && Implements(w, own, t) },
	)
}

// Convertible tells whether v may become t.
func Convertible(w *types.World, v, t api.Type, c *api.Const) bool {
	return anyOf(
		func() bool { return Assignable(w, v, t, c) },
		func() bool {
			u := under(w, v)
			return !noValue(u) && !isOf(api.TypeParam)(u) && alikeUnder(w, v, t)
		},
	)
}

// Satisfies tells whether t may stand for a type parameter.
func Satisfies(w *types.World, t, constraint api.Type) bool {
	if constraint.Kind != api.TypeUnion {
		return Implements(w, t, constraint)
	}
	if constraint.N == anyComparable {
		return w.Comparable(t)
	}
	listed := func(x api.Type) bool {
		return slices.ContainsFunc(constraint.Kids, func(y api.Type) bool { return types.Identical(x, y) })
	}
	return anyOf(
		func() bool { return listed(t) },
		func() bool { return isOf(api.TypeParam)(t) && w.Each(t, listed) },
	)
}

// Fits tells whether a constant is one of a type.
func Fits(c api.Const, t api.Type) bool {
	switch c.Kind {
	case api.TypeInt:
		_, small := exact.Small(c.Num)
		return small && t.Kind == api.TypeInt
	case api.TypeString, api.TypeBool:
		return t.Kind == c.Kind
	}
	return false
}
