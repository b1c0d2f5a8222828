package check

import (
	"slices"

	"recast/api"
	"recast/methods"
	"recast/types"
	"recast/unify"
)

// call is what a Call comes to.
func (c *checker) call(n api.Node) operand {
	f := n.Kids[0]
	if name := c.builtin(f); name != "" {
		return c.callBuiltin(name, n)
	}
	if c.isType(f) {
		return c.convert(n)
	}
	if number, given, found := c.generic(f); found {
		return c.callGeneric(n, number, given)
	}
	sig := c.called(f)
	return c.pass(sig, n.Text, c.valuesOf(n.Kids[1:]))
}

// convert is what a Call of a type comes to.
func (c *checker) convert(n api.Node) operand {
	t := c.typeOf(n.Kids[0])
	must(n.Text == "" && len(n.Kids) == 2, "a type is called with another number of values than one")
	x := c.value(n.Kids[1])
	must(methods.Convertible(c.World, x.of, t, x.constant), "a value can't become one of a type")
	if isOf(c.under(t), api.TypeInt, api.TypeString, api.TypeBool) {
		return operand{of: t, constant: x.constant}
	}
	return operand{of: t}
}

// called is the type of the function that is called by what stands ahead of the arguments.
func (c *checker) called(f api.Node) api.Type {
	if _, found := c.meant(f); found || f.Kind != api.NodeSelector {
		return c.function(c.value(f))
	}
	x, part := c.member(f)
	if part.Kind == api.ObjField {
		return c.function(c.note(f, fieldOf(x, part)))
	}
	must(!part.Ptr || x.place || part.Deref, "a method needs an address that there is not")
	c.note(f, operand{of: part.Type})
	return part.Type
}

// function is what a value takes and leaves that must be a function.
func (c *checker) function(x operand) api.Type {
	u := c.under(x.of)
	must(u.Kind == api.TypeFunc, "what is no function is called")
	return u
}

// pass is what a call leaves, by the type of what is called and the arguments. text says whether these end with
// `...`.
func (c *checker) pass(sig api.Type, text string, args []operand) operand {
	params, results := sig.Kids[:sig.N], sig.Kids[sig.N:]
	must(text != dots || sig.Flag, "a list of arguments is passed to what takes none")
	many := sig.Flag && text != dots
	must(len(args) == len(params) || many && len(args) >= len(params)-1, "a call has another number of arguments")
	for i, x := range args {
		if many && i >= len(params)-1 {
			c.give(x, params[len(params)-1].Kids[0])
		} else {
			c.give(x, params[i])
		}
	}
	if len(results) == 1 {
		return operand{of: results[0]}
	}
	return operand{of: types.Make(api.TypeTuple, results...)}
}

// generic is the number of the generic function that is called, and the type arguments that stand at it; false, if
// what is called is none.
func (c *checker) generic(f api.Node) (number int, given []api.Node, found bool) {
	if f.Kind == api.NodeIndex {
		f, given = f.Kids[0], f.Kids[1:]
	}
	m, found := c.meant(f)
	if !found || !m.is(api.ObjFunc) || len(c.generics[m.number]) == 0 {
		return 0, nil, false
	}
	return m.number, given, true
}

// callGeneric is what a Call of a generic function comes to.
func (c *checker) callGeneric(n api.Node, number int, given []api.Node) operand {
	var params, known []api.Type
	for _, p := range c.generics[number] {
		params = append(params, c.objects[p].Type)
	}
	for _, g := range given {
		known = append(known, c.typeOf(g))
	}
	sig, args := c.objects[number].Type, c.valuesOf(n.Kids[1:])
	found, err := unify.Infer(c.World, sig, params, known, told(args))
	must(err == api.OK, "type arguments are not to be found")
	for _, t := range found {
		must(t.Kind == api.TypeParam || !hasParam(t), "a type argument is made of a type parameter")
	}
	return c.pass(types.Subst(sig, found), n.Text, args)
}

// told is arguments as package unify wants them.
func told(args []operand) []unify.Arg {
	var out []unify.Arg
	for _, x := range args {
		out = append(out, unify.Arg{Type: x.of, Const: x.constant})
	}
	return out
}

// hasParam tells whether a type parameter stands anywhere in a type.
func hasParam(t api.Type) bool {
	return t.Kind == api.TypeParam || slices.ContainsFunc(t.Kids, hasParam)
}
