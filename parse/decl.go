package parse

import "recast/api"

// file reads a FILE.
func (p *parser) file() api.Node {
	from := p.take("package").From
	n := p.node(api.NodeFile, from, "", p.ident())
	p.semi()
	for p.sees("import") {
		n.Kids = append(n.Kids, p.importLine())
		p.semi()
	}
	for p.next().Kind != api.TokEnd {
		n.Kids = append(n.Kids, p.decl())
		p.semi()
	}
	n.To = n.Kids[len(n.Kids)-1].To
	return n
}

// importLine reads an IMPORT.
func (p *parser) importLine() api.Node {
	from := p.take("import").From
	path := p.takeKind(api.TokStr)
	return p.node(api.NodeImport, from, path.Text)
}

// decl reads a DECL.
func (p *parser) decl() api.Node {
	switch {
	case p.sees("func"):
		return p.function()
	case p.sees("var"):
		return p.variable()
	case p.sees("const"):
		return p.constant()
	}
	return p.typeDecl()
}

// variable reads a VAR.
func (p *parser) variable() api.Node {
	from := p.take("var").From
	name, typ, value := p.ident(), none(), none()
	if !p.sees("=") {
		typ = p.aType()
	}
	if p.took("=") {
		value = p.expr()
	}
	return p.node(api.NodeVar, from, "", name, typ, value)
}

// constant reads a CONST.
func (p *parser) constant() api.Node {
	from := p.take("const").From
	name, typ := p.ident(), none()
	if !p.sees("=") {
		typ = p.aType()
	}
	p.take("=")
	return p.node(api.NodeConst, from, "", name, typ, p.expr())
}

// typeDecl reads a TYPEDECL.
func (p *parser) typeDecl() api.Node {
	from := p.take("type").From
	name := p.ident()
	return p.node(api.NodeType, from, "", name, p.aType())
}

// function reads a FUNC.
func (p *parser) function() api.Node {
	from := p.take("func").From
	recv, tparams := none(), none()
	method := p.sees("(")
	if method {
		recv = p.receiver()
	}
	name := p.ident()
	if !method && p.sees("[") {
		at := p.next().From
		list := p.list("[", "]", 1, plain(p.typeParam))
		tparams = p.node(api.NodeTParams, at, "", list...)
	}
	params, results := p.params(), p.results()
	return p.node(api.NodeFunc, from, "", recv, name, tparams, params, results, p.block())
}

// receiver reads what stands ahead of the name of a method.
func (p *parser) receiver() api.Node {
	from := p.take("(").From
	name := p.ident()
	at := p.next().From
	pointer := p.took("*")
	typ := p.ident()
	if pointer {
		typ = p.node(api.NodePointer, at, "", typ)
	}
	p.take(")")
	return p.node(api.NodeRecv, from, "", name, typ)
}

// typeParam reads a NAME CONSTRAINT.
func (p *parser) typeParam() api.Node {
	name := p.ident()
	return p.node(api.NodeTParam, name.From, "", name, p.constraint())
}

// constraint reads a CONSTRAINT.
func (p *parser) constraint() api.Node {
	types := []api.Node{p.aType()}
	for p.took("|") {
		types = append(types, p.aType())
	}
	if len(types) == 1 {
		return types[0]
	}
	return around(api.NodeUnion, types)
}

// params reads PARAMS.
func (p *parser) params() api.Node {
	from := p.next().From
	list := p.list("(", ")", 0, p.param)
	return p.node(api.NodeParams, from, "", list...)
}

// param reads one of PARAMS; one with `...` is the last.
func (p *parser) param() (n api.Node, last bool) {
	name, text := p.ident(), ""
	if p.took(dots) {
		text = dots
	}
	return p.node(api.NodeParam, name.From, text, name, p.aType()), text == dots
}

// results reads RESULTS. (A `(` there opens the list: a type within brackets would be one of them, too.)
func (p *parser) results() api.Node {
	from := p.next().From
	switch {
	case p.sees("("):
		list := p.list("(", ")", 1, plain(p.aType))
		return p.node(api.NodeResults, from, "", list...)
	case p.seesType():
		return p.node(api.NodeResults, from, "", p.aType())
	}
	return p.empty(api.NodeResults)
}

// block reads a BLOCK.
func (p *parser) block() api.Node {
	from := p.next().From
	head := p.enter("{")
	stmts := p.stmts("}")
	p.leave("}", head)
	return p.node(api.NodeBlock, from, "", stmts...)
}
