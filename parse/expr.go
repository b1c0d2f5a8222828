package parse

import "recast/api"

// onlyExpr reads an EXPR behind which the source ends.
func (p *parser) onlyExpr() api.Node {
	n := p.expr()
	p.end()
	return n
}

// expr reads an EXPR.
func (p *parser) expr() api.Node { return p.binary(p.unary(), 1) }

// exprs reads EXPR { `,` EXPR }.
func (p *parser) exprs() []api.Node {
	out := []api.Node{p.expr()}
	for p.took(",") {
		out = append(out, p.expr())
	}
	return out
}

// rank is how close the binary sign binds that is next, from 1 on; 0, if none is.
func (p *parser) rank() int {
	switch {
	case p.sees("||"):
		return 1
	case p.sees("&&"):
		return 2
	case p.sees("==", "!=", "<", "<=", ">", ">="):
		return 3
	case p.sees("+", "-"):
		return 4
	case p.sees("*", "/", "%"):
		return 5
	}
	return 0
}

// binary reads the rest of an EXPR whose first UNARY was read, as far as its signs are of the least rank.
func (p *parser) binary(left api.Node, least int) api.Node {
	for rank := p.rank(); rank >= least; rank = p.rank() {
		sign := p.advance().Text
		right := p.binary(p.unary(), rank+1)
		left = p.node(api.NodeBinary, left.From, sign, left, right)
	}
	return left
}

// unary reads a UNARY.
func (p *parser) unary() api.Node {
	if !p.sees("-", "!", "&", "*", "<-") {
		return p.primary()
	}
	sign := p.advance()
	return p.node(api.NodeUnary, sign.From, sign.Text, p.unary())
}

// primary reads a PRIMARY.
func (p *parser) primary() api.Node { return p.rest(p.operand()) }

// rest reads the rest of a PRIMARY whose OPERAND was read.
func (p *parser) rest(n api.Node) api.Node {
	for {
		switch {
		case p.took("."):
			n = p.member(n)
		case p.sees("["):
			n = p.index(n)
		case p.sees("("):
			n = p.call(n)
		default:
			return n
		}
	}
}

// member reads what stands behind a `.`.
func (p *parser) member(of api.Node) api.Node {
	if !p.took("(") {
		return p.node(api.NodeSelector, of.From, "", of, p.ident())
	}
	typ := p.aType()
	p.take(")")
	return p.node(api.NodeAssert, of.From, "", of, typ)
}

// index reads the arguments between `[` and `]`.
func (p *parser) index(of api.Node) api.Node {
	args := p.list("[", "]", 1, plain(p.arg))
	return p.node(api.NodeIndex, of.From, "", append([]api.Node{of}, args...)...)
}

// call reads the arguments between `(` and `)`; one with `...` is the last.
func (p *parser) call(of api.Node) api.Node {
	text := ""
	args := p.list("(", ")", 0, func() (api.Node, bool) {
		arg := p.arg()
		if p.took(dots) {
			text = dots
		}
		return arg, text == dots
	})
	return p.node(api.NodeCall, of.From, text, append([]api.Node{of}, args...)...)
}

// arg reads an ARG.
func (p *parser) arg() api.Node {
	if !p.sees("[", "chan", "struct", "interface") {
		return p.expr()
	}
	typ := p.aType()
	if typ.Kind != api.NodeSlice || !p.sees("{") {
		return typ
	}
	return p.binary(p.rest(p.composite(typ)), 1)
}

// operand reads an OPERAND.
func (p *parser) operand() api.Node {
	switch t := p.next(); t.Kind {
	case api.TokIdent:
		return p.named()
	case api.TokInt:
		return leaf(api.NodeInt, p.advance())
	case api.TokStr:
		return leaf(api.NodeStr, p.advance())
	}
	switch {
	case p.sees("("):
		return p.paren()
	case p.sees("func"):
		return p.funcLit()
	case p.sees("["):
		return p.composite(p.aType())
	}
	panic(p.wrong())
}

// named reads an OPERAND that begins with a NAME.
func (p *parser) named() api.Node {
	name := p.ident()
	switch {
	case p.head:
		return name
	case p.sees("{"), p.seesRow(".", anyName, "{"):
		return p.composite(p.qualified(name))
	}
	return name
}

// paren reads an EXPR within brackets.
func (p *parser) paren() api.Node {
	from := p.next().From
	head := p.enter("(")
	inner := p.expr()
	p.leave(")", head)
	return p.node(api.NodeParen, from, "", inner)
}

// funcLit reads a func without a name.
func (p *parser) funcLit() api.Node {
	from := p.take("func").From
	params, results := p.params(), p.results()
	return p.node(api.NodeFuncLit, from, "", params, results, p.block())
}

// composite reads the elements behind a LITTYPE.
func (p *parser) composite(typ api.Node) api.Node {
	elements := p.list("{", "}", 0, plain(p.element))
	return p.node(api.NodeComposite, typ.From, "", append([]api.Node{typ}, elements...)...)
}

// element reads one of the elements of a composite.
func (p *parser) element() api.Node {
	if !p.seesRow(anyName, ":") {
		return p.expr()
	}
	name := p.ident()
	p.take(":")
	return p.node(api.NodeKeyed, name.From, "", name, p.expr())
}
