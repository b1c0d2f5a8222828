package parse

import (
	"slices"

	"recast/api"
)

// dots is the sign of any number of parameters or arguments.
const dots = "..."

// parser goes through the tokens of a source; each form of the grammar is a method of it, which takes the
// tokens of the form and is its node. A token is taken only where it may follow those ahead of it, so that the
// first one that may not is the one that the fault is told of.
type parser struct {
	tokens []api.Token // the last one is the TokEnd, which no form takes
	at     int         // the number of the token that is next
	head   bool        // in the head of an if, for or switch, outside of brackets: a `{` begins its block
}

// next is the token that is next.
func (p *parser) next() api.Token { return p.tokens[p.at] }

// wrong is what the reading gives up with, where the token that is next may not stand.
func (p *parser) wrong() api.Fault {
	return api.Fault{Code: api.FaultSyntax, At: p.next().From}
}

// advance takes the token that is next, whatever it is.
func (p *parser) advance() api.Token {
	t := p.next()
	p.at++
	return t
}

// isSign tells whether a token is one of the signs and words. (A string may say the same as one.)
func isSign(t api.Token, signs ...string) bool {
	return (t.Kind == api.TokOp || t.Kind == api.TokWord) && slices.Contains(signs, t.Text)
}

// sees tells whether one of the signs and words is next.
func (p *parser) sees(signs ...string) bool { return isSign(p.next(), signs...) }

// took takes one of the signs and words if it is next, and tells whether it was.
func (p *parser) took(signs ...string) bool {
	if !p.sees(signs...) {
		return false
	}
	p.at++
	return true
}

// take takes one of the signs and words: none else may stand there.
func (p *parser) take(signs ...string) api.Token {
	if !p.sees(signs...) {
		panic(p.wrong())
	}
	return p.advance()
}

// takeKind takes a token of the kind: none else may stand there.
func (p *parser) takeKind(kind int) api.Token {
	if p.next().Kind != kind {
		panic(p.wrong())
	}
	return p.advance()
}

// seesRow tells whether the next tokens are these: a sign or word each, or anyName. (None of these is the TokEnd:
// what stands behind it is never asked for.)
func (p *parser) seesRow(row ...string) bool {
	for i, want := range row {
		t := p.tokens[p.at+i]
		if want == anyName && t.Kind != api.TokIdent || want != anyName && !isSign(t, want) {
			return false
		}
	}
	return true
}

// anyName stands for any identifier in seesRow: no sign and no word is empty.
const anyName = ""

// seesSemi tells whether a `;` is next.
func (p *parser) seesSemi() bool { return p.next().Kind == api.TokSemi }

// semi takes a `;`.
func (p *parser) semi() { p.takeKind(api.TokSemi) }

// enter takes a sign that opens brackets, and is what leave wants at their end: within brackets nothing hangs
// on whether these stand in a head.
func (p *parser) enter(opening string) bool {
	p.take(opening)
	head := p.head
	p.head = false
	return head
}

// leave takes the sign that closes the brackets.
func (p *parser) leave(closing string, head bool) {
	p.take(closing)
	p.head = head
}

// node is a node whose last token is the one that was taken last.
func (p *parser) node(kind, from int, text string, kids ...api.Node) api.Node {
	return api.Node{Kind: kind, From: from, To: p.tokens[p.at-1].To, Text: text, Kids: kids}
}

// leaf is the node of one token.
func leaf(kind int, t api.Token) api.Node {
	return api.Node{Kind: kind, From: t.From, To: t.To, Text: t.Text}
}

// none is the node that stands for what is wanting.
func none() api.Node { return api.Node{Kind: api.NodeNone} }

// empty is a node of no bytes at the token that is next.
func (p *parser) empty(kind int) api.Node {
	at := p.next().From
	return api.Node{Kind: kind, From: at, To: at}
}

// around is a node without a sign or bracket of its own, from its first kid to its last one.
func around(kind int, kids []api.Node) api.Node {
	return api.Node{Kind: kind, From: kids[0].From, To: kids[len(kids)-1].To, Kids: kids}
}

// list reads a list between brackets, at least so many. one reads one of them, and tells whether no other one
// may follow it.
func (p *parser) list(opening, closing string, least int, one func() (n api.Node, last bool)) []api.Node {
	head := p.enter(opening)
	var out []api.Node
	for last := false; !last && (len(out) < least || !p.sees(closing)); {
		var n api.Node
		n, last = one()
		out = append(out, n)
		if !p.took(",") {
			break
		}
	}
	p.leave(closing, head)
	return out
}

// plain is what list wants of a form behind which another one may always follow.
func plain(form func() api.Node) func() (api.Node, bool) {
	return func() (api.Node, bool) { return form(), false }
}

// row reads a row of a form, between braces.
func (p *parser) row(form func() api.Node) []api.Node {
	head := p.enter("{")
	var out []api.Node
	for !p.sees("}") {
		out = append(out, form())
		if !p.sees("}") {
			p.semi()
		}
	}
	p.leave("}", head)
	return out
}

// ident reads a NAME.
func (p *parser) ident() api.Node { return leaf(api.NodeIdent, p.takeKind(api.TokIdent)) }

// qualified is the name, or the Selector that a `.` behind it makes of it.
func (p *parser) qualified(name api.Node) api.Node {
	if !p.took(".") {
		return name
	}
	return p.node(api.NodeSelector, name.From, "", name, p.ident())
}
