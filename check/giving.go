package check

import (
	"slices"

	"recast/api"
	"recast/konst"
	"recast/methods"
	"recast/types"
)

// give gives up, unless a value may be given to what is of a type.
func (c *checker) give(x operand, t api.Type) {
	must(c.mayGive(x, t), "a value is given to what it may not be given to")
}

// runs gives up, if a value that is given to nothing with a type is a constant that no value of a run is.
func (c *checker) runs(x operand) {
	must(x.constant == nil || methods.Fits(*x.constant, c.under(x.of)), "a constant is too great for a run")
}

// initial is the type of a variable that is made by being given a value.
func (c *checker) initial(x operand) api.Type {
	must(x.of.Kind != api.TypeNil, "nil is given to what has no type of its own")
	c.runs(x)
	return types.Default(x.of)
}

// meeting is the type in which two values meet.
func (c *checker) meeting(l, r operand) api.Type {
	if untyped(l.of) && untyped(r.of) {
		must(l.of.Kind == r.of.Kind, "two constants of unlike kinds meet")
		return l.of
	}
	toLeft, toRight := c.mayGive(r, l.of), c.mayGive(l, r.of)
	must(toLeft || toRight, "two values of unlike types meet")
	if untyped(l.of) || !toLeft {
		return r.of
	}
	return l.of
}

// joined is what a sign between two values comes to.
func (c *checker) joined(sign string, l, r operand) operand {
	x := operand{of: c.meeting(l, r)}
	must(c.takes(sign, x.of, l, r), "a sign stands between what it may not stand between")
	if sign == "/" || sign == "%" {
		must(r.constant == nil || !konst.Equal(*r.constant, konst.Int(0)), "something is divided by 0")
	}
	if slices.Contains([]string{"==", "!=", "<", "<=", ">", ">="}, sign) {
		x.of = types.Make(api.TypeConstBool)
	}
	if l.constant != nil && r.constant != nil {
		v, err := konst.Binary(sign, *l.constant, *r.constant)
		must(err == api.OK, "a sign makes no constant of two others")
		x.constant = &v
	}
	return x
}

// takes tells whether a sign may stand between two values that meet in a type.
func (c *checker) takes(sign string, t api.Type, l, r operand) bool {
	switch sign {
	case "==", "!=":
		return c.Comparable(l.of) && c.Comparable(r.of) || c.mayBeNil(l, r) || c.mayBeNil(r, l)
	case "+", "<", "<=", ">", ">=":
		return c.all(t, api.TypeInt, api.TypeString)
	case "&&", "||":
		return c.all(t, api.TypeBool)
	}
	return c.all(t, api.TypeInt)
}

// mayBeNil tells whether one value is nil, and the other may be.
func (c *checker) mayBeNil(l, r operand) bool {
	return r.of.Kind == api.TypeNil && c.Nilable(l.of)
}

// all tells whether all that a type may be is of one of these kinds.
func (c *checker) all(t api.Type, kinds ...int) bool {
	return c.Each(types.Default(t), func(t api.Type) bool { return isOf(t, kinds...) })
}
