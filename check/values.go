package check

import (
	"slices"

	"recast/api"
	"recast/exact"
	"recast/konst"
	"recast/methods"
	"recast/scope"
	"recast/types"
)

// operand is what an expression has come to.
type operand struct {
	of       api.Type
	constant *api.Const // nil: it is none
	place    bool       // it may be assigned to, and its address taken
}

// value is what an expression comes to that must leave just one value.
func (c *checker) value(n api.Node) operand {
	x := c.expr(n)
	must(x.of.Kind != api.TypeTuple, "a call of several or of no results stands where a value should")
	return x
}

// valuesOf is what expressions come to.
func (c *checker) valuesOf(list []api.Node) []operand {
	var out []operand
	for _, n := range list {
		out = append(out, c.value(n))
	}
	return out
}

// expr is what an expression comes to.
func (c *checker) expr(n api.Node) operand { return c.note(n, c.form(n)) }

// note notes what an expression has come to.
func (c *checker) note(n api.Node, x operand) operand {
	must(x.constant == nil || untyped(x.of) || methods.Fits(*x.constant, c.under(x.of)), "a constant is beyond its type")
	if x.of.Kind != api.TypeTuple || n.Kind == api.NodeCall {
		c.typed = append(c.typed, api.Typed{Path: c.path, From: n.From, To: n.To, Type: x.of, Const: x.constant != nil})
	}
	return x
}

// form is what an expression comes to, by its form.
func (c *checker) form(n api.Node) operand {
	switch n.Kind {
	case api.NodeIdent:
		return c.object(n)
	case api.NodeInt:
		v, err := exact.Parse(n.Text)
		must(err == api.OK, "an int is too great")
		return constant(api.Const{Kind: api.TypeInt, Num: v})
	case api.NodeStr:
		return constant(konst.Str(n.Text))
	case api.NodeParen:
		return c.expr(n.Kids[0])
	case api.NodeFuncLit:
		sig := c.head(n.Kids[0], n.Kids[1])
		c.body(sig, n.Kids[2])
		return operand{of: sig}
	case api.NodeComposite:
		return c.composite(n)
	case api.NodeSelector:
		return c.selector(n)
	case api.NodeCall:
		return c.call(n)
	case api.NodeIndex:
		return c.index(n)
	case api.NodeAssert:
		return c.assert(n)
	case api.NodeUnary:
		return c.unary(n)
	case api.NodeBinary:
		return c.joined(n.Text, c.value(n.Kids[0]), c.value(n.Kids[1]))
	}
	panic(wrong("no expression stands where one should"))
}

// constant is a constant without a type.
func constant(v api.Const) operand { return operand{of: konst.Type(v), constant: &v} }

// object is what an Ident comes to, or a Selector behind a package.
func (c *checker) object(n api.Node) operand {
	m, found := c.meant(n)
	switch {
	case !found:
	case m.isOfUniverse(api.ObjConst):
		return constant(konst.Bool(m.name == "true"))
	case m.isOfUniverse(api.ObjVar):
		return operand{of: types.Make(api.TypeNil)}
	case m.is(api.ObjConst):
		c.settle(m.number)
		v := c.values[m.number]
		return operand{of: c.objects[m.number].Type, constant: &v}
	case m.is(api.ObjVar, api.ObjParam):
		c.settle(m.number)
		return operand{of: c.objects[m.number].Type, place: true}
	case m.is(api.ObjFunc) && len(c.generics[m.number]) == 0:
		return operand{of: c.objects[m.number].Type}
	}
	panic(wrong("an identifier stands for no value"))
}

// selector is what a Selector comes to that is not called.
func (c *checker) selector(n api.Node) operand {
	if _, found := c.meant(n); found {
		return c.object(n)
	}
	x, f := c.member(n)
	must(f.Kind == api.ObjField, "a method stands elsewhere than as what is called")
	return fieldOf(x, f)
}

// fieldOf is what a field of a value comes to.
func fieldOf(x operand, f methods.Found) operand {
	return operand{of: f.Type, place: x.place || f.Deref}
}

// member is the value that stands ahead of the point of a Selector, and what the name behind it is there.
func (c *checker) member(n api.Node) (operand, methods.Found) {
	x, name := c.value(n.Kids[0]), n.Kids[1]
	f, found := c.lookUp(x.of, name.Text)
	must(found, "a value has no field or method of a name")
	owner := c.ownerOf(x, f)
	must(scope.Exported(name.Text) || c.objects[owner].Pkg == c.pkg, "a field or method is not for other packages")
	if f.Kind == api.ObjIMethod {
		c.refer(name, c.abstractOf(owner, name.Text))
	} else {
		c.refer(name, c.partOf(owner, name.Text))
	}
	return x, f
}

// refer notes which field or method an identifier stands for.
func (c *checker) refer(name api.Node, number int) {
	c.uses = append(c.uses, api.Use{Path: c.path, At: name.From, Obj: number})
}

// ownerOf is the declared type whose field or method was found in a value: of one of a type parameter that which
// its constraint is.
func (c *checker) ownerOf(x operand, f methods.Found) int {
	if f.Owner != "" {
		return c.named[f.Owner]
	}
	t := x.of
	if t.Kind == api.TypePointer {
		t = t.Kids[0]
	}
	return c.bounds[c.tparams[t.N]]
}

// index is what an Index comes to that is no generic function's.
func (c *checker) index(n api.Node) operand {
	x := c.value(n.Kids[0])
	must(len(n.Kids) == 2, "an index has several parts")
	c.give(c.value(n.Kids[1]), types.Make(api.TypeInt))
	u := c.under(x.of)
	if u.Kind == api.TypeSlice {
		return operand{of: u.Kids[0], place: true}
	}
	must(u.Kind == api.TypeString, "an index stands behind what is no slice and no string")
	return operand{of: types.Make(api.TypeInt)}
}

// assert is what an Assert comes to.
func (c *checker) assert(n api.Node) operand {
	x, t := c.value(n.Kids[0]), c.typeOf(n.Kids[1])
	must(c.under(x.of).Kind == api.TypeInterface, "a value whose type is known is asserted to be of one")
	must(c.under(t).Kind == api.TypeInterface || methods.Implements(c.World, t, x.of), "a value can't be of a type")
	return operand{of: t}
}

// unary is what a Unary comes to.
func (c *checker) unary(n api.Node) operand {
	x := c.value(n.Kids[0])
	switch n.Text {
	case "&":
		must(x.place || bare(n.Kids[0]).Kind == api.NodeComposite, "the address of what has none is taken")
		return operand{of: types.Make(api.TypePointer, x.of)}
	case "*":
		return operand{of: c.kid(x, api.TypePointer), place: true}
	case "<-":
		return operand{of: c.kid(x, api.TypeChan)}
	case "-":
		must(c.under(x.of).Kind == api.TypeInt, "what is no int is negated")
	default:
		must(c.under(x.of).Kind == api.TypeBool, "what is no truth value is turned")
	}
	if x.constant == nil {
		return operand{of: x.of}
	}
	v, err := konst.Unary(n.Text, *x.constant)
	must(err == api.OK, "a sign makes no constant of another")
	return operand{of: x.of, constant: &v}
}

// kid is what a value's type is made of, which must be of a kind underneath.
func (c *checker) kid(x operand, kind int) api.Type {
	u := c.under(x.of)
	must(u.Kind == kind, "a value is not of the kind that it should be")
	return u.Kids[0]
}

// composite is what a Composite comes to.
func (c *checker) composite(n api.Node) operand {
	t, elements := c.typeOf(n.Kids[0]), n.Kids[1:]
	u := c.under(t)
	switch u.Kind {
	case api.TypeStruct:
		c.structElements(t, u, elements)
	case api.TypeSlice:
		for _, e := range elements {
			c.give(c.value(e), u.Kids[0])
		}
	default:
		panic(wrong("a composite is of a type that is no struct and no slice"))
	}
	return operand{of: t}
}

// structElements checks the elements of a struct, which a declared type is underneath.
func (c *checker) structElements(t, u api.Type, elements []api.Node) {
	owner := c.named[t.Name]
	hidden := func(name string) bool { return c.objects[owner].Pkg != c.pkg && !scope.Exported(name) }
	if len(elements) == 0 {
		return
	}
	if elements[0].Kind != api.NodeKeyed {
		must(!slices.ContainsFunc(u.Names, hidden), "a field that is not for other packages is given something")
		must(len(elements) == len(u.Kids), "a struct has another number of fields")
		for i, e := range elements {
			c.give(c.value(e), u.Kids[i])
		}
		return
	}
	given := map[string]struct{}{}
	for _, e := range elements {
		must(e.Kind == api.NodeKeyed, "some fields are told by their names, others not")
		name := e.Kids[0]
		i := slices.Index(u.Names, name.Text)
		must(i >= 0 && !hidden(name.Text), "a struct has no field of a name")
		_, twice := given[name.Text]
		must(!twice, "a field is given something twice")
		given[name.Text] = struct{}{}
		c.refer(name, c.partOf(owner, name.Text))
		c.give(c.value(e.Kids[1]), u.Kids[i])
	}
}
