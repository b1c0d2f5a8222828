package parse

import "recast/api"

// onlyType reads a TYPE behind which the source ends.
func (p *parser) onlyType() api.Node {
	n := p.aType()
	p.end()
	return n
}

// end reads a `;` or nothing, and the end.
func (p *parser) end() {
	if p.seesSemi() {
		p.semi()
	}
	if p.next().Kind != api.TokEnd {
		panic(p.wrong())
	}
}

// seesType tells whether what is next could begin a TYPE, if it is no bracket.
func (p *parser) seesType() bool {
	return p.next().Kind == api.TokIdent || p.sees("*", "[", "chan", "func", "struct", "interface")
}

// aType reads a TYPE.
func (p *parser) aType() api.Node {
	from := p.next().From
	switch {
	case p.took("*"):
		return p.node(api.NodePointer, from, "", p.aType())
	case p.took("["):
		p.take("]")
		return p.node(api.NodeSlice, from, "", p.aType())
	case p.took("chan"):
		return p.node(api.NodeChan, from, "", p.aType())
	case p.took("func"):
		types, text := p.types(dots)
		return p.node(api.NodeFuncType, from, text, types, p.results())
	case p.took("struct"):
		return p.node(api.NodeStruct, from, "", p.row(p.field)...)
	case p.took("interface"):
		return p.node(api.NodeInterface, from, "", p.row(p.elem)...)
	case p.took("("):
		inner := p.aType()
		p.take(")")
		return p.node(api.NodeParen, from, "", inner)
	}
	return p.qualified(p.ident())
}

// types reads the types between the brackets of a func type or method, and the sign that stands ahead of the
// last one: one of marks, or none.
func (p *parser) types(marks ...string) (n api.Node, text string) {
	opening := p.at
	list := p.list("(", ")", 0, func() (api.Node, bool) {
		if p.sees(marks...) {
			text = p.advance().Text
		}
		return p.aType(), text != ""
	})
	from := p.tokens[opening+1].From
	n = api.Node{Kind: api.NodeTypes, From: from, To: from, Kids: list}
	if len(list) > 0 {
		n.To = list[len(list)-1].To
	}
	return n, text
}

// field reads a FIELD.
func (p *parser) field() api.Node {
	name := p.ident()
	if p.sees(".", "}") || p.seesSemi() {
		return p.embed(name)
	}
	return p.node(api.NodeField, name.From, "", name, p.aType())
}

// elem reads an ELEM.
func (p *parser) elem() api.Node {
	name := p.ident()
	if !p.sees("(") {
		return p.embed(name)
	}
	types, _ := p.types()
	return p.node(api.NodeMethod, name.From, "", name, types, p.results())
}

// embed reads the rest of what is embedded, whose first NAME was read.
func (p *parser) embed(name api.Node) api.Node {
	return p.node(api.NodeEmbed, name.From, "", p.qualified(name))
}
