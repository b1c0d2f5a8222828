package parse_test

import (
	"math/rand/v2"
	"strings"

	"recast/api"
)

// knot is a node whose place may still be unknown.
type knot struct {
	kind, from, to int
	text           string
	kids           []*knot
}

// tree is the node that it is in the end.
func (k *knot) tree() api.Node {
	n := api.Node{Kind: k.kind, From: k.from, To: k.to, Text: k.text}
	for _, x := range k.kids {
		n.Kids = append(n.Kids, x.tree())
	}
	return n
}

// writer writes a source token by token, by chance, and with each form the node that the chapter gives it: so it
// knows the tree of what it wrote without reading it.
type writer struct {
	*rand.Rand
	src   strings.Builder
	last  string   // the last token
	to    int      // where the last token ends that is no `;`
	left  int      // how many forms may still hold others
	plain bool     // nothing but single blanks between tokens
	texts []string // of the tokens, a `;` for any TokSemi
	hold  []*knot  // those of no bytes, which stand at the place of the next token
}

func newWriter(seed uint64, left int, plain bool) *writer {
	return &writer{Rand: rand.New(rand.NewPCG(seed, 5)), left: left, plain: plain}
}

// one is one of the texts.
func (w *writer) one(texts ...string) string { return texts[w.IntN(len(texts))] }

// chance tells yes once in so many times.
func (w *writer) chance(n int) bool { return w.IntN(n) == 0 }

// deeper tells whether a form may still hold others.
func (w *writer) deeper() bool {
	w.left--
	return w.left > 0
}

// gap is something between two tokens that is no line's end where that would stand for a `;`.
func (w *writer) gap(next string) string {
	if w.plain || w.last == "" {
		return " "
	}
	gaps := []string{" ", "\t", "  ", "\r ", " /* a */ ", " /**/"}
	if bracket(w.last) || bracket(next) {
		gaps = append(gaps, "", "", "")
	}
	if !endsLine(w.last) {
		gaps = append(gaps, "\n", " // ( b\n", " /* {\n */")
	}
	return w.one(gaps...)
}

// bracket tells whether no byte beside the token makes another one of it.
func bracket(token string) bool { return len(token) == 1 && strings.Contains("()[]{},;", token) }

// endsLine tells whether a line's end behind the token stands for a `;`.
func endsLine(token string) bool {
	switch token {
	case "++", "--", ")", "]", "}", "break", "continue", "return":
		return true
	case "", "package", "import", "var", "const", "type", "func", "struct", "interface", "chan", "if", "else", "for", "range", "switch", "select", "case", "default", "go", "defer":
		return false
	}
	c := token[0]
	return c == '"' || c == '_' || c >= '0' && c <= '9' || c >= 'a' && c <= 'z' || c >= 'A' && c <= 'Z'
}

// write writes a token, and is where it begins.
func (w *writer) write(token string) int {
	w.src.WriteString(w.gap(token))
	from := w.src.Len()
	w.place(from)
	w.src.WriteString(token)
	w.last = token
	if token != ";" {
		w.to = w.src.Len()
	}
	w.texts = append(w.texts, token)
	return from
}

// place gives those of no bytes the place of the next token.
func (w *writer) place(at int) {
	for _, k := range w.hold {
		k.from, k.to = at, at
	}
	w.hold = nil
}

// semi writes a `;`, or a line's end that stands for one.
func (w *writer) semi() {
	if w.plain || !endsLine(w.last) || w.chance(2) {
		w.write(";")
		return
	}
	w.src.WriteString(w.one("", " ", "/* x */", "\r"))
	end := w.one("\n", "// y\n", "/* \n */", "/*\n\n*/ // z\n")
	at := w.src.Len()
	if strings.HasPrefix(end, "//") {
		at += len(end) - 1
	}
	w.place(at)
	w.src.WriteString(end)
	w.last = ";"
	w.texts = append(w.texts, ";")
}

// end ends the source, with a `;` or without.
func (w *writer) end() {
	if w.chance(2) {
		w.semi()
	} else {
		w.texts = append(w.texts, ";")
	}
	if !w.plain {
		w.src.WriteString(w.one("", " ", "/**/", "//", "// e"))
	}
	w.place(w.src.Len())
}

// node is a node that ends with the last token.
func (w *writer) node(kind, from int, text string, kids ...*knot) *knot {
	return &knot{kind: kind, from: from, to: w.to, text: text, kids: kids}
}

// none stands for what is wanting.
func none() *knot { return &knot{kind: api.NodeNone} }

// later is a node of no bytes at the next token.
func (w *writer) later(kind int) *knot {
	k := &knot{kind: kind}
	w.hold = append(w.hold, k)
	return k
}

// around goes from its first kid to its last.
func around(kind int, kids ...*knot) *knot {
	return &knot{kind: kind, from: kids[0].from, to: kids[len(kids)-1].to, kids: kids}
}

// list writes a list, at times with a last comma, and is where it begins.
func (w *writer) list(opening, closing string, least int, one func(last bool) *knot) (from int, out []*knot) {
	from = w.write(opening)
	n := least + w.IntN(3)
	for i := range n {
		out = append(out, one(i == n-1))
		if i < n-1 || w.chance(4) {
			w.write(",")
		}
	}
	w.write(closing)
	return from, out
}

// listed is a node that is a list with its brackets.
func (w *writer) listed(kind int, opening, closing string, least int, one func(last bool) *knot) *knot {
	from, kids := w.list(opening, closing, least, one)
	return w.node(kind, from, "", kids...)
}

// row writes a row between braces.
func (w *writer) row(one func() *knot) []*knot {
	var out []*knot
	w.write("{")
	n := w.IntN(4)
	for i := range n {
		out = append(out, one())
		if i < n-1 || w.chance(2) {
			w.semi()
		}
	}
	w.write("}")
	return out
}

func (w *writer) name() *knot {
	text := w.one("a", "b", "x1", "_", "T", "int", "If", "nil")
	return w.node(api.NodeIdent, w.write(text), text)
}

func (w *writer) qualified() *knot {
	n := w.name()
	if w.chance(3) {
		w.write(".")
		n = w.node(api.NodeSelector, n.from, "", n, w.name())
		n.to = w.to
	}
	return n
}

// with is a node of the kids, the last of which it is told how to write; it ends where that one does.
func (w *writer) with(kind, from int, text string, last func() *knot, kids ...*knot) *knot {
	kids = append(kids, last())
	return w.node(kind, from, text, kids...)
}

func (w *writer) file() api.Node {
	from := w.write("package")
	kids := []*knot{w.name()}
	for range w.IntN(3) {
		w.semi()
		at := w.write("import")
		text := w.one("p", "a/b", "")
		w.write(`"` + text + `"`)
		kids = append(kids, w.node(api.NodeImport, at, text))
	}
	for range w.IntN(4) {
		w.semi()
		kids = append(kids, w.decl())
	}
	n := w.node(api.NodeFile, from, "", kids...)
	w.end()
	return n.tree()
}

func (w *writer) onlyType() api.Node {
	n := w.typ()
	w.end()
	return n.tree()
}

func (w *writer) onlyExpr() api.Node {
	n := w.expr(1, false)
	w.end()
	return n.tree()
}

func (w *writer) decl() *knot {
	switch w.IntN(6) {
	case 0:
		return w.variable()
	case 1:
		return w.constant()
	case 2:
		from := w.write("type")
		return w.with(api.NodeType, from, "", w.typ, w.name())
	}
	return w.function()
}

func (w *writer) variable() *knot {
	from := w.write("var")
	kids := []*knot{w.name(), none(), none()}
	which := w.IntN(3)
	if which > 0 {
		kids[1] = w.typ()
	}
	if which < 2 {
		w.write("=")
		kids[2] = w.expr(1, false)
	}
	return w.node(api.NodeVar, from, "", kids...)
}

func (w *writer) constant() *knot {
	from := w.write("const")
	kids := []*knot{w.name(), none(), nil}
	if w.chance(2) {
		kids[1] = w.typ()
	}
	w.write("=")
	kids[2] = w.expr(1, false)
	return w.node(api.NodeConst, from, "", kids...)
}

func (w *writer) function() *knot {
	from := w.write("func")
	kids := []*knot{none(), nil, none()}
	method := w.chance(3)
	if method {
		kids[0] = w.receiver()
	}
	kids[1] = w.name()
	if !method && w.chance(2) {
		kids[2] = w.listed(api.NodeTParams, "[", "]", 1, func(bool) *knot {
			name := w.name()
			return w.with(api.NodeTParam, name.from, "", w.constraint, name)
		})
	}
	kids = append(kids, w.params(), w.results(), w.block())
	return w.node(api.NodeFunc, from, "", kids...)
}

func (w *writer) receiver() *knot {
	from := w.write("(")
	kids := []*knot{w.name()}
	if w.chance(2) {
		at := w.write("*")
		kids = append(kids, w.with(api.NodePointer, at, "", w.name))
	} else {
		kids = append(kids, w.name())
	}
	w.write(")")
	return w.node(api.NodeRecv, from, "", kids...)
}

func (w *writer) constraint() *knot {
	types := []*knot{w.typ()}
	for w.chance(2) {
		w.write("|")
		types = append(types, w.typ())
	}
	if len(types) == 1 {
		return types[0]
	}
	return around(api.NodeUnion, types...)
}

func (w *writer) params() *knot {
	return w.listed(api.NodeParams, "(", ")", 0, func(last bool) *knot {
		name, text := w.name(), ""
		if last && w.chance(3) {
			text = "..."
			w.write(text)
		}
		return w.with(api.NodeParam, name.from, text, w.typ, name)
	})
}

func (w *writer) results() *knot {
	switch w.IntN(4) {
	case 0:
		return w.listed(api.NodeResults, "(", ")", 1, func(bool) *knot { return w.typ() })
	case 1:
		n := w.typ()
		if n.kind == api.NodeParen {
			// These brackets are those of a list of one.
			return w.node(api.NodeResults, n.from, "", n.kids...)
		}
		return w.node(api.NodeResults, n.from, "", n)
	}
	return w.later(api.NodeResults)
}

func (w *writer) typ() *knot {
	if !w.deeper() || w.chance(3) {
		return w.qualified()
	}
	switch w.IntN(7) {
	case 0:
		return w.with(api.NodePointer, w.write("*"), "", w.typ)
	case 1:
		from := w.write("func")
		types, text := w.types(true)
		return w.with(api.NodeFuncType, from, text, w.results, types)
	case 2:
		from := w.write("(")
		inner := w.typ()
		w.write(")")
		return w.node(api.NodeParen, from, "", inner)
	}
	return w.bare()
}

// bare writes a TYPE that is no EXPR at its first token.
func (w *writer) bare() *knot {
	switch w.IntN(4) {
	case 0:
		return w.with(api.NodeChan, w.write("chan"), "", w.typ)
	case 1:
		from := w.write("struct")
		kids := w.row(w.field)
		return w.node(api.NodeStruct, from, "", kids...)
	case 2:
		from := w.write("interface")
		kids := w.row(w.elem)
		return w.node(api.NodeInterface, from, "", kids...)
	}
	return w.slice()
}

func (w *writer) slice() *knot {
	from := w.write("[")
	w.write("]")
	return w.with(api.NodeSlice, from, "", w.typ)
}

func (w *writer) types(spreads bool) (*knot, string) {
	text, n := "", &knot{kind: api.NodeTypes}
	_, n.kids = w.list("(", ")", 0, func(last bool) *knot {
		at := -1
		if last && spreads && w.chance(2) {
			text = "..."
			at = w.write(text)
		}
		k := w.typ()
		if at < 0 {
			at = k.from
		}
		if n.to == 0 {
			n.from = at
		}
		n.to = k.to
		return k
	})
	if n.to == 0 {
		n.from, n.to = w.to-1, w.to-1
	}
	return n, text
}

func (w *writer) embed() *knot {
	n := w.qualified()
	return w.node(api.NodeEmbed, n.from, "", n)
}

func (w *writer) field() *knot {
	if w.chance(3) {
		return w.embed()
	}
	name := w.name()
	return w.with(api.NodeField, name.from, "", w.typ, name)
}

func (w *writer) elem() *knot {
	if w.chance(3) {
		return w.embed()
	}
	name := w.name()
	types, _ := w.types(false)
	return w.with(api.NodeMethod, name.from, "", w.results, name, types)
}

func (w *writer) block() *knot {
	from := w.write("{")
	stmts := w.stmts()
	w.write("}")
	return w.node(api.NodeBlock, from, "", stmts...)
}

// stmts writes a row of STMT, some of them nothing.
func (w *writer) stmts() []*knot {
	var out []*knot
	n := w.IntN(4)
	for i := range n {
		if w.chance(8) {
			w.write(";")
			continue
		}
		out = append(out, w.stmt())
		if i < n-1 || w.chance(2) {
			w.semi()
		}
	}
	return out
}

func (w *writer) stmt() *knot {
	if !w.deeper() {
		return w.node(api.NodeBreak, w.write("break"), "")
	}
	switch w.IntN(16) {
	case 0:
		return w.variable()
	case 1:
		return w.constant()
	case 2:
		return w.block()
	case 3:
		return w.with(api.NodeGo, w.write("go"), "", w.called)
	case 4:
		return w.with(api.NodeDefer, w.write("defer"), "", w.called)
	case 5:
		from := w.write("return")
		if w.chance(3) {
			return w.node(api.NodeReturn, from, "")
		}
		kids := w.exprs(false).kids
		return w.node(api.NodeReturn, from, "", kids...)
	case 6:
		return w.node(api.NodeContinue, w.write("continue"), "")
	case 7, 8:
		return w.ifStmt()
	case 9, 10:
		return w.forStmt()
	case 11:
		from := w.write("switch")
		kids := append([]*knot{w.expr(1, true)}, w.cases(api.NodeCase, func() *knot { return w.exprs(false) })...)
		return w.node(api.NodeSwitch, from, "", kids...)
	case 12:
		from := w.write("select")
		kids := w.cases(api.NodeComm, w.comm)
		return w.node(api.NodeSelect, from, "", kids...)
	}
	return w.simple(false)
}

func (w *writer) called() *knot { return w.call(w.primary(false)) }

func (w *writer) exprs(head bool) *knot {
	l := []*knot{w.expr(1, head)}
	for w.chance(3) {
		w.write(",")
		l = append(l, w.expr(1, head))
	}
	return around(api.NodeExprs, l...)
}

func (w *writer) names() *knot {
	l := []*knot{w.name()}
	for w.chance(2) {
		w.write(",")
		l = append(l, w.name())
	}
	return around(api.NodeExprs, l...)
}

func (w *writer) simple(head bool) *knot {
	expr := func() *knot { return w.expr(1, head) }
	exprs := func() *knot { return w.exprs(head) }
	switch w.IntN(6) {
	case 0:
		n := expr()
		w.write("<-")
		return w.with(api.NodeSend, n.from, "", expr, n)
	case 1:
		n := exprs()
		w.write("=")
		return w.with(api.NodeAssign, n.from, "=", exprs, n)
	case 2:
		n := around(api.NodeExprs, expr())
		sign := w.one("+=", "-=", "*=", "/=", "%=")
		w.write(sign)
		right := around(api.NodeExprs, expr())
		return w.node(api.NodeAssign, n.from, sign, n, right)
	case 3:
		n, sign := expr(), w.one("++", "--")
		w.write(sign)
		return w.node(api.NodeIncDec, n.from, sign, n)
	case 4:
		n := w.names()
		w.write(":=")
		return w.with(api.NodeDefine, n.from, "", exprs, n)
	}
	n := expr()
	return w.node(api.NodeExprStmt, n.from, "", n)
}

func (w *writer) ifStmt() *knot {
	from := w.write("if")
	kids := []*knot{none()}
	if w.chance(2) {
		kids[0] = w.simple(true)
		w.semi()
	}
	kids = append(kids, w.expr(1, true), w.block(), none())
	if w.chance(2) {
		w.write("else")
		if w.chance(2) {
			kids[3] = w.ifStmt()
		} else {
			kids[3] = w.block()
		}
	}
	return w.node(api.NodeIf, from, "", kids...)
}

func (w *writer) forStmt() *knot {
	from := w.write("for")
	kids := []*knot{none(), none(), none()}
	switch w.IntN(4) {
	case 0:
		if w.chance(2) {
			kids[1] = w.expr(1, true)
		}
	case 1:
		return w.rangeStmt(from)
	default:
		if w.chance(2) {
			kids[0] = w.simple(true)
			w.semi()
		} else {
			w.write(";")
		}
		if w.chance(2) {
			kids[1] = w.expr(1, true)
			w.semi()
		} else {
			w.write(";")
		}
		if w.chance(2) {
			kids[2] = w.simple(true)
		}
	}
	return w.with(api.NodeFor, from, "", w.block, kids...)
}

// oneOrTwo writes NAME [ `,` NAME ] `:=`, or nothing.
func (w *writer) oneOrTwo() []*knot {
	kids := []*knot{none(), none()}
	n := w.IntN(3)
	if n > 0 {
		kids[0] = w.name()
	}
	if n > 1 {
		w.write(",")
		kids[1] = w.name()
	}
	if n > 0 {
		w.write(":=")
	}
	return kids
}

func (w *writer) rangeStmt(from int) *knot {
	kids := w.oneOrTwo()
	w.write("range")
	kids = append(kids, w.expr(1, true))
	return w.with(api.NodeRange, from, "", w.block, kids...)
}

func (w *writer) cases(kind int, what func() *knot) []*knot {
	var out []*knot
	w.write("{")
	for range w.IntN(4) {
		kids := []*knot{none()}
		from := 0
		if w.chance(3) {
			from = w.write("default")
		} else {
			from = w.write("case")
			kids[0] = what()
		}
		w.write(":")
		to := w.to
		kids = append(kids, w.stmts()...)
		if len(kids) > 1 {
			to = kids[len(kids)-1].to
		}
		out = append(out, &knot{kind: kind, from: from, to: to, kids: kids})
	}
	w.write("}")
	return out
}

func (w *writer) comm() *knot {
	if w.chance(2) {
		n := w.expr(1, false)
		w.write("<-")
		return w.with(api.NodeSend, n.from, "", func() *knot { return w.expr(1, false) }, n)
	}
	kids := w.oneOrTwo()
	from := w.write("<-")
	if kids[0].kind == api.NodeIdent {
		from = kids[0].from
	}
	return w.with(api.NodeReceive, from, "", func() *knot { return w.unary(false) }, kids...)
}

// signs are the binary signs of each rank.
var signs = [][]string{1: {"||"}, {"&&"}, {"==", "!=", "<", "<=", ">", ">="}, {"+", "-"}, {"*", "/", "%"}}

func (w *writer) expr(least int, head bool) *knot {
	if least > 5 || !w.deeper() || !w.chance(3) {
		return w.unary(head)
	}
	rank := least + w.IntN(6-least)
	left := w.expr(rank, head)
	sign := w.one(signs[rank]...)
	w.write(sign)
	return w.with(api.NodeBinary, left.from, sign, func() *knot { return w.expr(rank+1, head) }, left)
}

func (w *writer) unary(head bool) *knot {
	if !w.chance(4) {
		return w.primary(head)
	}
	sign := w.one("-", "!", "&", "*", "<-")
	return w.with(api.NodeUnary, w.write(sign), sign, func() *knot { return w.unary(head) })
}

func (w *writer) primary(head bool) *knot {
	n := w.operand(head)
	for w.chance(3) {
		switch w.IntN(4) {
		case 0:
			w.write(".")
			n = w.with(api.NodeSelector, n.from, "", w.name, n)
		case 1:
			w.write(".")
			w.write("(")
			typ := w.typ()
			w.write(")")
			n = w.node(api.NodeAssert, n.from, "", n, typ)
		case 2:
			_, args := w.list("[", "]", 1, func(bool) *knot { return w.arg() })
			n = w.node(api.NodeIndex, n.from, "", append([]*knot{n}, args...)...)
		case 3:
			n = w.call(n)
		}
	}
	return n
}

func (w *writer) call(of *knot) *knot {
	text := ""
	_, args := w.list("(", ")", 0, func(last bool) *knot {
		n := w.arg()
		if last && w.chance(4) {
			text = "..."
			w.write(text)
		}
		return n
	})
	return w.node(api.NodeCall, of.from, text, append([]*knot{of}, args...)...)
}

func (w *writer) arg() *knot {
	if w.deeper() && w.chance(4) {
		return w.bare()
	}
	return w.expr(1, false)
}

func (w *writer) operand(head bool) *knot {
	if w.deeper() {
		switch w.IntN(8) {
		case 0:
			from := w.write("(")
			inner := w.expr(1, false)
			w.write(")")
			return w.node(api.NodeParen, from, "", inner)
		case 1:
			from := w.write("func")
			return w.with(api.NodeFuncLit, from, "", w.block, w.params(), w.results())
		case 2:
			return w.composite(w.slice())
		case 3:
			if !head {
				return w.composite(w.qualified())
			}
		}
	}
	switch w.IntN(6) {
	case 0:
		text := w.one("0", "7", "120")
		return w.node(api.NodeInt, w.write(text), text)
	case 1:
		said := [][2]string{{`""`, ""}, {`"s"`, "s"}, {`"\n\t\"\\"`, "\n\t\"\\"}, {`"("`, "("}, {`";"`, ";"}, {`"é//"`, "é//"}, {`"+"`, "+"}, {`"if"`, "if"}}[w.IntN(8)]
		return w.node(api.NodeStr, w.write(said[0]), said[1])
	}
	return w.name()
}

func (w *writer) composite(typ *knot) *knot {
	_, elements := w.list("{", "}", 0, func(bool) *knot {
		if w.chance(2) {
			return w.expr(1, false)
		}
		name := w.name()
		w.write(":")
		return w.with(api.NodeKeyed, name.from, "", func() *knot { return w.expr(1, false) }, name)
	})
	return w.node(api.NodeComposite, typ.from, "", append([]*knot{typ}, elements...)...)
}
