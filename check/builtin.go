package check

import (
	"recast/api"
	"recast/konst"
	"recast/types"
)

// builtin is the name of the universe's function that an expression is; empty of all others.
func (c *checker) builtin(n api.Node) string {
	m, found := c.meant(n)
	if !found || !m.isOfUniverse(api.ObjFunc) {
		return ""
	}
	return m.name
}

// callBuiltin is what a Call of a function of the universe comes to.
func (c *checker) callBuiltin(name string, n api.Node) operand {
	args := n.Kids[1:]
	must(n.Text == "" || name == "append", "a function of the universe takes no list of arguments")
	switch name {
	case "append":
		return c.callAppend(n.Text, c.valuesOf(args))
	case "make":
		return c.callMake(args)
	case "new":
		counted(args, 1)
		return operand{of: types.Make(api.TypePointer, c.typeOf(args[0]))}
	case "len":
		counted(args, 1)
		return c.callLen(c.value(args[0]))
	case "read":
		counted(args, 0)
		return operand{of: types.Make(api.TypeInt)}
	case "recover":
		counted(args, 0)
		return operand{of: types.Make(api.TypeInterface)}
	case "close":
		counted(args, 1)
		c.kid(c.value(args[0]), api.TypeChan)
	case "panic":
		counted(args, 1)
		c.give(c.value(args[0]), types.Make(api.TypeInterface))
	case "print":
		for _, x := range c.valuesOf(args) {
			must(c.all(x.of, api.TypeInt, api.TypeString, api.TypeBool), "what has no text is printed")
			c.runs(x)
		}
	}
	return operand{of: types.Make(api.TypeTuple)}
}

// counted gives up, unless there are just so many arguments.
func counted(args []api.Node, count int) {
	must(len(args) == count, "a function of the universe is called with another number of arguments")
}

// callAppend is what a Call of append comes to.
func (c *checker) callAppend(text string, args []operand) operand {
	must(len(args) > 0, "append has nothing to append to")
	s, others := args[0], args[1:]
	element := c.kid(s, api.TypeSlice)
	if text == dots {
		must(len(others) == 1, "append takes one list")
		must(types.Identical(c.under(others[0].of), c.under(s.of)), "a list of another type is appended")
		return operand{of: s.of}
	}
	for _, x := range others {
		c.give(x, element)
	}
	return operand{of: s.of}
}

// callMake is what a Call of make comes to.
func (c *checker) callMake(args []api.Node) operand {
	must(len(args) > 0, "make has nothing to make")
	t := c.typeOf(args[0])
	u := c.under(t)
	must(isOf(u, api.TypeChan, api.TypeSlice), "what is no channel and no slice is made")
	if len(args) == 1 && u.Kind == api.TypeChan {
		return operand{of: t}
	}
	counted(args, 2)
	x := c.value(args[1])
	c.give(x, types.Make(api.TypeInt))
	if x.constant != nil {
		below, err := konst.Binary("<", *x.constant, konst.Int(0))
		must(err == api.OK && !below.Bool, "less than nothing is made")
	}
	return operand{of: t}
}

// callLen is what a Call of len comes to.
func (c *checker) callLen(x operand) operand {
	must(isOf(c.under(x.of), api.TypeString, api.TypeSlice, api.TypeChan), "what has no length is asked for it")
	out := operand{of: types.Make(api.TypeInt)}
	if x.constant != nil {
		length := konst.Int(len(x.constant.Str))
		out.constant = &length
	}
	return out
}
