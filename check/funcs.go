package check

import (
	"recast/api"
	"recast/types"
)

// declareFuncs works out what functions take and leave that are no methods.
func (c *checker) declareFuncs() {
	c.eachDecl(api.ObjFunc, func(number int, n api.Node) {
		for i, p := range n.Kids[2].Kids {
			c.declareTParam(number, i, p)
		}
		c.objects[number].Type = c.head(n.Kids[3], n.Kids[4])
	})
}

// declareTParam works out a type parameter of a function, the number i of them.
func (c *checker) declareTParam(function, i int, n api.Node) {
	name, limit := n.Kids[0], n.Kids[1]
	number, _ := c.declares(name)
	c.objects[number].Type = api.Type{Kind: api.TypeParam, Name: name.Text, N: i, Kids: []api.Type{c.constraint(limit)}}
	c.generics[function] = append(c.generics[function], number)
	if m, found := c.meant(bare(limit)); found && m.is(api.ObjType) {
		c.bounds[number] = m.number
	}
}

// head is the type of a function of these Params and Results. It says of which types the parameters are.
func (c *checker) head(params, results api.Node) api.Type {
	var list []api.Type
	many := false
	for _, p := range params.Kids {
		t := c.typeOf(p.Kids[1])
		list = append(list, t)
		if p.Text == dots {
			many, t = true, types.Make(api.TypeSlice, t)
		}
		c.declare(p.Kids[0], t)
	}
	return signature(list, c.typesOf(results), many)
}

// checkAll checks the declarations of all packages.
func (c *checker) checkAll() {
	settle := func(number int, _ api.Node) { c.settle(number) }
	c.eachDecl(api.ObjConst, settle)
	c.eachDecl(api.ObjVar, settle)
	function := func(number int, n api.Node) {
		c.tparams = c.generics[number]
		c.body(c.objects[number].Type, n.Kids[5])
	}
	c.eachDecl(api.ObjFunc, function)
	c.eachDecl(api.ObjMethod, function)
}

// settle works out a constant or variable, if it is one of a package: these may stand in any order.
func (c *checker) settle(number int) {
	if c.objects[number].Level > 0 {
		return
	}
	c.once(number, func(n api.Node) {
		if n.Kind == api.NodeVar {
			c.variable(n)
		} else {
			c.constant(n)
		}
	})
}

// variable checks a Var.
func (c *checker) variable(n api.Node) {
	name, typ, value := n.Kids[0], n.Kids[1], n.Kids[2]
	if typ.Kind == api.NodeNone {
		c.declare(name, c.initial(c.value(value)))
		return
	}
	t := c.typeOf(typ)
	c.declare(name, t)
	if value.Kind != api.NodeNone {
		c.give(c.value(value), t)
	}
}

// constant checks a Const.
func (c *checker) constant(n api.Node) {
	name, typ := n.Kids[0], n.Kids[1]
	x := c.value(n.Kids[2])
	must(x.constant != nil, "a constant's value is none")
	if typ.Kind != api.NodeNone {
		t := c.typeOf(typ)
		must(isOf(c.under(t), api.TypeInt, api.TypeString, api.TypeBool), "a constant is of a type that has none")
		c.give(x, t)
		x.of = t
	}
	c.declare(name, x.of)
	number, _ := c.declares(name)
	c.values[number] = *x.constant
}

// body checks what a function of a type does.
func (c *checker) body(sig api.Type, block api.Node) {
	inner := c.spot
	inner.results = sig.Kids[sig.N:]
	c.within(inner, func() {
		c.stmts(block.Kids...)
		must(len(c.results) == 0 || c.ends(block.Kids), "a function with results does not end")
	})
}
