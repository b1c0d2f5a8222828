package check

import (
	"recast/api"
	"recast/types"
)

// stmts checks statements.
func (c *checker) stmts(list ...api.Node) {
	for _, n := range list {
		c.stmt(n)
	}
}

// stmt checks a statement; what is wanting is right.
func (c *checker) stmt(n api.Node) {
	switch n.Kind {
	case api.NodeBlock:
		c.stmts(n.Kids...)
	case api.NodeExprStmt:
		c.exprStmt(n.Kids[0])
	case api.NodeSend:
		element := c.kid(c.value(n.Kids[0]), api.TypeChan)
		c.give(c.value(n.Kids[1]), element)
	case api.NodeAssign:
		c.assign(n)
	case api.NodeDefine:
		c.define(n)
	case api.NodeIncDec:
		x := c.left(n.Kids[0])
		must(c.under(x.of).Kind == api.TypeInt, "what is no int is counted")
	case api.NodeVar:
		c.variable(n)
	case api.NodeConst:
		c.constant(n)
	case api.NodeGo, api.NodeDefer:
		f := n.Kids[0].Kids[0]
		must(!c.isType(f) && c.builtin(f) == "", "a conversion, or a function of the universe, is put off")
		c.expr(n.Kids[0])
	case api.NodeReturn:
		for i, x := range c.spread(n.Kids, len(c.results), false) {
			c.give(x, c.results[i])
		}
	default:
		c.compound(n)
	}
}

// compound checks a statement that has others within it.
func (c *checker) compound(n api.Node) {
	switch n.Kind {
	case api.NodeIf:
		c.stmt(n.Kids[0])
		c.cond(n.Kids[1])
		c.stmts(n.Kids[2:]...)
	case api.NodeFor:
		c.stmt(n.Kids[0])
		if n.Kids[1].Kind != api.NodeNone {
			c.cond(n.Kids[1])
		}
		c.stmts(n.Kids[2:]...)
	case api.NodeRange:
		c.rangeStmt(n)
	case api.NodeSwitch:
		c.switchStmt(n)
	case api.NodeSelect:
		for _, comm := range n.Kids {
			c.comm(comm.Kids[0])
			c.stmts(comm.Kids[1:]...)
		}
	}
}

// exprStmt checks an expression that stands as a statement.
func (c *checker) exprStmt(n api.Node) {
	switch e := bare(n); {
	case e.Kind == api.NodeCall:
		f := e.Kids[0]
		must(!c.isType(f), "a conversion stands as a statement")
		switch c.builtin(f) {
		case "append", "len", "make", "new":
			panic(wrong("what is worked out is not used"))
		}
	case e.Kind != api.NodeUnary || e.Text != "<-":
		panic(wrong("an expression stands as a statement"))
	}
	c.expr(n)
}

// spread is what so many places are given by expressions: a value each, or all by one that has several. twoValued:
// an Assert and a `<-` may tell, too, whether there was something.
func (c *checker) spread(list []api.Node, places int, twoValued bool) []operand {
	if len(list) != 1 || places < 2 {
		must(len(list) == places, "there is another number of values")
		return c.valuesOf(list)
	}
	n := list[0]
	x := c.expr(n)
	if x.of.Kind == api.TypeTuple {
		must(len(x.of.Kids) == places, "a call leaves another number of values")
		var out []operand
		for _, t := range x.of.Kids {
			out = append(out, operand{of: t})
		}
		return out
	}
	asks := n.Kind == api.NodeAssert || n.Kind == api.NodeUnary && n.Text == "<-"
	must(twoValued && places == 2 && asks, "one value is given to several places")
	return []operand{x, {of: types.Make(api.TypeConstBool)}}
}

// left is what stands left of a sign that assigns.
func (c *checker) left(n api.Node) operand {
	x := c.value(n)
	must(x.place, "something is assigned to what is no place")
	return x
}

// store checks that a value may be given to what stands left.
func (c *checker) store(n api.Node, x operand) {
	if isBlank(n) {
		c.initial(x)
		return
	}
	c.give(x, c.left(n).of)
}

// isBlank tells whether nothing keeps what is given to a left.
func isBlank(n api.Node) bool { return n.Kind == api.NodeIdent && n.Text == "_" }

// assign checks an Assign.
func (c *checker) assign(n api.Node) {
	lefts, rights := n.Kids[0].Kids, n.Kids[1].Kids
	if n.Text != "=" {
		l, r := c.left(lefts[0]), c.value(rights[0])
		c.joined(n.Text[:1], l, r)
		c.give(r, l.of)
		return
	}
	for i, x := range c.spread(rights, len(lefts), true) {
		c.store(lefts[i], x)
	}
}

// define checks a Define.
func (c *checker) define(n api.Node) {
	lefts := n.Kids[0].Kids
	for i, x := range c.spread(n.Kids[1].Kids, len(lefts), true) {
		if _, isNew := c.declares(lefts[i]); isNew {
			c.declare(lefts[i], c.initial(x))
		} else {
			c.store(lefts[i], x)
		}
	}
}

// cond checks a condition.
func (c *checker) cond(n api.Node) {
	must(c.under(c.value(n).of).Kind == api.TypeBool, "a condition is no truth value")
}

// rangeStmt checks a Range.
func (c *checker) rangeStmt(n api.Node) {
	x, number := c.value(n.Kids[2]), types.Make(api.TypeInt)
	c.runs(x)
	first, second, most := number, number, 2
	switch u := c.under(x.of); u.Kind {
	case api.TypeInt:
		first, most = types.Default(x.of), 1
	case api.TypeSlice:
		second = u.Kids[0]
	case api.TypeString:
	case api.TypeChan:
		first, most = u.Kids[0], 1
	default:
		panic(wrong("a range goes through what it can't"))
	}
	must(most == 2 || n.Kids[1].Kind == api.NodeNone, "a range has a second variable")
	c.declare(n.Kids[0], first)
	c.declare(n.Kids[1], second)
	c.stmt(n.Kids[3])
}

// switchStmt checks a Switch.
func (c *checker) switchStmt(n api.Node) {
	tag := c.value(n.Kids[0])
	must(c.Comparable(tag.of), "what can't be compared is switched on")
	c.runs(tag)
	for _, one := range n.Kids[1:] {
		for _, e := range one.Kids[0].Kids {
			x := c.value(e)
			c.runs(x)
			c.joined("==", tag, x)
		}
		c.stmts(one.Kids[1:]...)
	}
}

// comm checks what a case of a Select waits for.
func (c *checker) comm(n api.Node) {
	if n.Kind != api.NodeReceive {
		c.stmt(n)
		return
	}
	element := c.kid(c.value(n.Kids[2]), api.TypeChan)
	c.declare(n.Kids[0], element)
	c.declare(n.Kids[1], types.Make(api.TypeBool))
}
