package parse

import "recast/api"

// stmts reads a row of STMT up to one of the signs and words that end it, which it leaves.
func (p *parser) stmts(ends ...string) []api.Node {
	var out []api.Node
	for !p.sees(ends...) {
		if !p.seesSemi() {
			out = append(out, p.stmt())
		}
		if !p.sees(ends...) {
			p.semi()
		}
	}
	return out
}

// stmt reads a STMT that is not nothing.
func (p *parser) stmt() api.Node {
	switch {
	case p.sees("var"):
		return p.variable()
	case p.sees("const"):
		return p.constant()
	case p.sees("{"):
		return p.block()
	case p.sees("go"):
		return p.callStmt(api.NodeGo)
	case p.sees("defer"):
		return p.callStmt(api.NodeDefer)
	case p.sees("return"):
		return p.returnStmt()
	case p.sees("break"):
		return p.node(api.NodeBreak, p.advance().From, "")
	case p.sees("continue"):
		return p.node(api.NodeContinue, p.advance().From, "")
	case p.sees("if"):
		return p.ifStmt()
	case p.sees("for"):
		return p.forStmt()
	case p.sees("switch"):
		return p.switchStmt()
	case p.sees("select"):
		return p.selectStmt()
	}
	return p.simple()
}

// callStmt reads a `go` or `defer`. Its EXPR is a Call, so it begins and ends as a PRIMARY does.
func (p *parser) callStmt(kind int) api.Node {
	from := p.advance().From
	call := p.primary()
	if call.Kind != api.NodeCall {
		panic(p.wrong())
	}
	return p.node(kind, from, "", call)
}

// returnStmt reads a `return`.
func (p *parser) returnStmt() api.Node {
	from := p.advance().From
	if p.seesSemi() || p.sees("}", "case", "default") {
		return p.node(api.NodeReturn, from, "")
	}
	return p.node(api.NodeReturn, from, "", p.exprs()...)
}

// simple reads a SIMPLE.
func (p *parser) simple() api.Node {
	first := p.expr()
	switch {
	case p.took("<-"):
		return p.node(api.NodeSend, first.From, "", first, p.expr())
	case p.sees("++", "--"):
		return p.node(api.NodeIncDec, first.From, p.advance().Text, first)
	case p.sees("+=", "-=", "*=", "/=", "%="):
		sign := p.advance().Text
		left, right := []api.Node{first}, []api.Node{p.expr()}
		return p.node(api.NodeAssign, first.From, sign, around(api.NodeExprs, left), around(api.NodeExprs, right))
	case p.sees(",", "=", ":="):
		return p.assignment(first)
	}
	return p.node(api.NodeExprStmt, first.From, "", first)
}

// assignment reads the rest of an Assign with `=`, or of a Define, whose first EXPR was read.
func (p *parser) assignment(first api.Node) api.Node {
	left, names := []api.Node{first}, first.Kind == api.NodeIdent
	for p.took(",") {
		n := p.expr()
		left, names = append(left, n), names && n.Kind == api.NodeIdent
	}
	kind, text := api.NodeDefine, ""
	if !names || !p.took(":=") {
		kind, text = api.NodeAssign, p.take("=").Text
	}
	right := p.exprs()
	return p.node(kind, first.From, text, around(api.NodeExprs, left), around(api.NodeExprs, right))
}

// ifStmt reads an IF.
func (p *parser) ifStmt() api.Node {
	from := p.take("if").From
	p.head = true
	first, cond := none(), p.simple()
	if cond.Kind == api.NodeExprStmt && !p.seesSemi() {
		cond = cond.Kids[0]
	} else {
		p.semi()
		first, cond = cond, p.expr()
	}
	p.head = false
	then, other := p.block(), none()
	if p.took("else") {
		other = p.elseBranch()
	}
	return p.node(api.NodeIf, from, "", first, cond, then, other)
}

// elseBranch reads what stands behind an `else`.
func (p *parser) elseBranch() api.Node {
	if p.sees("if") {
		return p.ifStmt()
	}
	return p.block()
}

// forStmt reads a `for`, with `range` or without.
func (p *parser) forStmt() api.Node {
	from := p.take("for").From
	if p.sees("range") || p.seesRow(anyName, ":=", "range") || p.seesRow(anyName, ",", anyName, ":=", "range") {
		return p.rangeStmt(from)
	}
	p.head = true
	first, cond, post := p.forHead()
	p.head = false
	return p.node(api.NodeFor, from, "", first, cond, post, p.block())
}

// forHead reads what stands between a `for` and its BLOCK.
func (p *parser) forHead() (first, cond, post api.Node) {
	first, cond, post = none(), none(), none()
	if p.sees("{") {
		return first, cond, post
	}
	if !p.seesSemi() {
		first = p.simple()
		if first.Kind == api.NodeExprStmt && p.sees("{") {
			return none(), first.Kids[0], post
		}
	}
	p.semi()
	if !p.seesSemi() {
		cond = p.expr()
	}
	p.semi()
	if !p.sees("{") {
		post = p.simple()
	}
	return first, cond, post
}

// rangeStmt reads the rest of a `for` with `range`.
func (p *parser) rangeStmt(from int) api.Node {
	first, second := none(), none()
	if !p.took("range") {
		first, second = p.oneOrTwo()
		p.take("range")
	}
	p.head = true
	over := p.expr()
	p.head = false
	return p.node(api.NodeRange, from, "", first, second, over, p.block())
}

// oneOrTwo reads NAME [ `,` NAME ] `:=`.
func (p *parser) oneOrTwo() (first, second api.Node) {
	first, second = p.ident(), none()
	if p.took(",") {
		second = p.ident()
	}
	p.take(":=")
	return first, second
}

// switchStmt reads a `switch`.
func (p *parser) switchStmt() api.Node {
	from := p.take("switch").From
	p.head = true
	of := p.expr()
	p.head = false
	cases := p.cases(api.NodeCase, p.caseExprs)
	return p.node(api.NodeSwitch, from, "", append([]api.Node{of}, cases...)...)
}

// caseExprs reads what stands behind a `case` of a switch.
func (p *parser) caseExprs() api.Node { return around(api.NodeExprs, p.exprs()) }

// selectStmt reads a `select`.
func (p *parser) selectStmt() api.Node {
	from := p.take("select").From
	return p.node(api.NodeSelect, from, "", p.cases(api.NodeComm, p.comm)...)
}

// cases reads the cases of a switch or select, with their braces; what reads what stands behind a `case`.
func (p *parser) cases(kind int, what func() api.Node) []api.Node {
	var out []api.Node
	p.take("{")
	for !p.sees("}") {
		out = append(out, p.oneCase(kind, what))
	}
	p.take("}")
	return out
}

// oneCase reads a case with its row.
func (p *parser) oneCase(kind int, what func() api.Node) api.Node {
	word, first := p.take("case", "default"), none()
	if word.Text == "case" {
		first = what()
	}
	p.take(":")
	n := p.node(kind, word.From, "", first)
	stmts := p.stmts("case", "default", "}")
	if len(stmts) > 0 {
		n.To = stmts[len(stmts)-1].To
	}
	n.Kids = append(n.Kids, stmts...)
	return n
}

// comm reads the SEND or RECEIVE of a comm.
func (p *parser) comm() api.Node {
	if p.seesRow(anyName, ":=") || p.seesRow(anyName, ",") {
		first, second := p.oneOrTwo()
		p.take("<-")
		return p.node(api.NodeReceive, first.From, "", first, second, p.unary())
	}
	n := p.expr()
	switch {
	case p.took("<-"):
		return p.node(api.NodeSend, n.From, "", n, p.expr())
	case n.Kind == api.NodeUnary && n.Text == "<-":
		return p.node(api.NodeReceive, n.From, "", none(), none(), n.Kids[0])
	}
	panic(p.wrong())
}
