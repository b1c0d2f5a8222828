package flow_test

import (
	"fmt"
	"math/rand/v2"
	"slices"
	"strings"
)

// A writer makes functions by chance, and knows of what it writes when it is evaluated: nothing is read again.

// span is where something stands in what was written.
type span struct{ from, to int }

// holds tells whether a span lies within another one.
func (s span) holds(x span) bool { return s.from <= x.from && x.to <= s.to }

// step is an expression that is evaluated as a part of something.
type step struct {
	*piece
	sure bool
}

// piece is an expression or a statement.
type piece struct {
	span
	parts    []step
	quiet    func() bool // whether it is inert, but for its parts; nil: never
	constant bool
}

// inert tells whether it, and all that its evaluation does, makes no difference.
func (p *piece) inert() bool {
	return (p.constant || p.quiet != nil && p.quiet()) && !slices.ContainsFunc(p.parts, func(s step) bool { return !s.inert() })
}

// order is what is evaluated, each behind its parts, and itself.
func (p *piece) order(sure bool) []step {
	var out []step
	for _, s := range p.parts {
		out = append(out, s.order(sure && s.sure)...)
	}
	return append(out, step{p, sure})
}

// variable is one that was declared.
type variable struct {
	name, kind string
	span
}

// event is something that is done to a variable by what stands in a span.
type event struct {
	span
	of *variable
}

// jump is a Break or a Continue, and what it means; that is nil of a Return.
type jump struct {
	span
	means *span
}

// around is a statement that a Break, or a Continue too, means.
type around struct {
	*span
	loop bool
}

// writer is what was written so far.
type writer struct {
	*rand.Rand
	strings.Builder
	pieces   []*piece
	stmts    []*piece
	all      []*variable
	visible  [][]*variable // by Blocks
	uses     []event
	points   []event // pointers that are made to variables
	stores   []event
	stored   []*variable // by the statement that is being written
	lits     []*span
	recovers []span // Defers and Calls of recover
	jumps    []jump
	arounds  []around
	inLit    int
	deep     int
	inHead   bool        // ahead of a Block, where a Composite would be none
	owed     []*variable // declared ahead of a Block: it is to use them
	begin    int         // where what was made by chance begins
}

// item is a text; what writes an expression that is a part; what writes some parts; or what else is to be done.
type item any

// write writes an expression or a statement.
func (w *writer) write(items []item) *piece {
	p := &piece{}
	p.from = w.Len()
	for _, x := range items {
		switch x := x.(type) {
		case string:
			w.WriteString(x)
		case func() *piece:
			p.parts = append(p.parts, step{x(), true})
		case func() []step:
			p.parts = append(p.parts, x()...)
		case func():
			x()
		default:
			panic("an item is odd")
		}
	}
	p.to = w.Len()
	return p
}

// of writes an expression.
func (w *writer) of(items ...item) *piece {
	p := w.write(items)
	w.pieces = append(w.pieces, p)
	return p
}

// stmt writes a statement.
func (w *writer) stmt(items ...item) *piece {
	stored := w.stored
	w.stored = nil
	p := w.write(items)
	for _, v := range w.stored {
		w.stores = append(w.stores, event{p.span, v})
	}
	w.stored = stored
	w.stmts = append(w.stmts, p)
	return p
}

func always() bool { return true }

// quiet is a piece that is inert, if its parts are, and a constant, if they are.
func quiet(p *piece) *piece {
	p.quiet = always
	return folded(p)
}

// folded is a piece that is a constant, if its parts are.
func folded(p *piece) *piece {
	p.constant = !slices.ContainsFunc(p.parts, func(s step) bool { return !s.constant })
	return p
}

// fixed is a piece that is a constant.
func fixed(p *piece) *piece {
	p.constant = true
	return p
}

// perhaps says that the last part is evaluated perhaps.
func perhaps(p *piece) *piece {
	p.parts[len(p.parts)-1].sure = false
	return p
}

// declare writes the name of a new variable.
func (w *writer) declare(kind string) *variable {
	v := &variable{name: fmt.Sprint("v", len(w.all)), kind: kind}
	w.all = append(w.all, v)
	w.mention(v)
	v.span = w.uses[len(w.uses)-1].span
	return v
}

// show says that variables are to be seen from here on.
func (w *writer) show(l ...*variable) {
	last := len(w.visible) - 1
	w.visible[last] = append(w.visible[last], l...)
}

// mention writes a variable's name.
func (w *writer) mention(v *variable) {
	from := w.Len()
	w.WriteString(v.name)
	w.uses = append(w.uses, event{span{from, w.Len()}, v})
}

// some is a variable of a kind that is to be seen.
func (w *writer) some(kind string) *variable {
	l := slices.DeleteFunc(slices.Concat(w.visible...), func(v *variable) bool { return v.kind != kind })
	return l[w.IntN(len(l))]
}

// load is what writes a variable that is evaluated.
func (w *writer) load(v *variable) func() *piece {
	return func() *piece {
		p := w.of(func() { w.mention(v) })
		p.quiet = func() bool { return v.from > 0 && !w.isShared(v, span{0, w.Len()}) }
		return p
	}
}

// a is what writes a variable of a kind that is evaluated.
func (w *writer) a(kind string) func() *piece {
	return func() *piece { return w.load(w.some(kind))() }
}

// isShared tells whether a variable is shared by what stands in a span.
func (w *writer) isShared(v *variable, root span) bool {
	lits := func(at span) int {
		n := 0
		for _, l := range w.lits {
			if root.holds(*l) && root.holds(at) && l.holds(at) {
				n++
			}
		}
		return n
	}
	for _, u := range w.uses {
		if u.of == v && root.holds(u.span) && (v.from == 0 || lits(u.span) > lits(v.span)) {
			return true
		}
	}
	return slices.ContainsFunc(w.points, func(e event) bool { return e.of == v && root.holds(e.span) })
}

// outside tells whether something stands in a span, and in no FuncLit of it.
func (w *writer) outside(s, root span) bool {
	return root.holds(s) && !slices.ContainsFunc(w.lits, func(l *span) bool { return root.holds(*l) && l.holds(s) })
}

// pick writes one of several, one of the first few where it is deep already.
func (w *writer) pick(few int, all ...func() *piece) *piece {
	w.deep++
	defer func() { w.deep-- }()
	if w.deep > 5 {
		all = all[:few]
	}
	return all[w.IntN(len(all))]()
}

// as is what writes an expression of these items.
func (w *writer) as(items ...item) func() *piece { return func() *piece { return w.of(items...) } }

// one of some texts.
func (w *writer) one(l ...string) func() { return func() { w.WriteString(l[w.IntN(len(l))]) } }

// point is what notes that by what is written a pointer is made to a variable.
func (w *writer) point(v *variable, items ...item) func() *piece {
	return func() *piece {
		p := w.of(items...)
		w.points = append(w.points, event{p.span, v})
		return p
	}
}

// through is what writes a Call of a method of a variable, or of a field of it, that takes a pointer.
func (w *writer) through(v *variable, field, method string, args ...item) func() *piece {
	var from int
	held := w.load(v)
	if field != "" {
		held = w.as(held, field)
	}
	point := func() { w.points = append(w.points, event{span{from, w.Len()}, v}) }
	return w.as(append([]item{func() { from = w.Len() }, held, method, point}, args...)...)
}

// paren is what writes an expression in brackets.
func (w *writer) paren(x func() *piece) func() *piece {
	return func() *piece {
		inHead := w.inHead
		w.inHead = false
		defer func() { w.inHead = inHead }()
		return quiet(w.of("(", x, ")"))
	}
}

// number writes an int.
func (w *writer) number() *piece {
	return w.pick(2, w.factor, w.factor, w.product,
		func() *piece { return quiet(w.of(w.product, w.one(" + ", " - "), w.factor)) },
		func() *piece { return quiet(w.of(w.factor, w.one(" + ", " - "), w.product)) },
		func() *piece { return quiet(w.of(w.factor, w.one(" + ", " - "), w.factor)) })
}

func (w *writer) product() *piece {
	return w.pick(1, w.factor, func() *piece { return quiet(w.of(w.product, " * ", w.factor)) },
		func() *piece { return w.of(w.product, w.one(" / ", " % "), w.a("int")) },
		func() *piece { return fixed(w.of(w.literal, w.one(" / ", " % "), w.literal)) })
}

func (w *writer) factor() *piece {
	return w.pick(2, w.primary, w.primary, func() *piece { return quiet(w.of("-", w.primary)) },
		func() *piece { return w.of("*", w.cell) },
		func() *piece { return w.of("<-", w.a("chan")) })
}

// primary writes an int that a point, and so on, may follow.
func (w *writer) primary() *piece {
	return w.pick(4, w.a("int"), w.a("int"), w.a("int"), w.literal, w.paren(w.number), w.paren(w.number), w.call, w.call, w.call,
		w.as(w.slice, "[", w.number, "]"),
		w.as(w.textPrimary, "[", w.number, "]"),
		w.as(w.structure, w.one(".f", ".h")),
		w.as(w.as(w.structure, ".U"), ".h"),
		w.as(w.pointer, w.one(".f", ".h")),
		w.as(w.a("any"), ".(int)"),
		w.as("len(", w.slice, ")"), w.as("len(", w.a("text"), ")"), w.as("int(", w.a("int"), ")"), w.as("b.F()"), w.as("read()"),
		func() *piece { return fixed(w.of("len(", w.quote, ")")) },
		func() *piece { return fixed(w.of("int(", w.literal, ")")) },
		func() *piece { return fixed(w.of(w.one("C", "b.C"))) },
		w.load(w.all[0]))
}

// call writes a Call that leaves an int.
func (w *writer) call() *piece {
	return w.pick(2, w.as("g()"), w.as("h(", w.number, ")"),
		w.as("many(", w.number, ", ", w.number, ")"), w.as("many(", w.slice, "...)"), w.as("gen", w.one("", "[int]"), "(", w.number, ")"),
		w.as(w.fun, "()"), w.as(w.lit, "(", w.number, ")"),
		w.as(w.a("face"), ".V()"), w.as(w.structure, ".V()"), w.as(w.pointer, ".V()"), w.as(w.structure, ".Q()"), w.as(w.as(w.pointer, ".U"), ".Q()"),
		w.as(w.pointer, ".P()"), w.as(w.as(w.pointer, ".U"), ".P()"),
		w.through(w.some("struct"), "", ".P", "()"), w.through(w.some("struct"), ".U", ".P", "()"))
}

func (w *writer) literal() *piece { return fixed(w.of(fmt.Sprint(1 + w.IntN(9)))) }

func (w *writer) quote() *piece { return fixed(w.of("\"a\"")) }

// truth writes a bool.
func (w *writer) truth() *piece {
	return w.pick(1, w.truthPrimary, w.compared, w.compared, w.both, w.both, func() *piece {
		return perhaps(quiet(w.of(w.both, " || ", w.compared)))
	})
}

func (w *writer) both() *piece { return perhaps(quiet(w.of(w.compared, " && ", w.compared))) }

func (w *writer) compared() *piece {
	numbers := func() *piece {
		return quiet(w.of(w.number, w.one(" == ", " != ", " < ", " <= ", " > ", " >= "), w.number))
	}
	return w.pick(1, w.truthPrimary, numbers, numbers, func() *piece { return quiet(w.of(w.text, w.one(" == ", " != ", " < ", " >= "), w.text)) },
		func() *piece { return quiet(w.of(w.truthPrimary, w.one(" == ", " != "), w.truthPrimary)) },
		w.as(w.pointer, w.one(" == ", " != "), w.null), w.as(w.a("any"), w.one(" == ", " != "), w.number))
}

func (w *writer) truthPrimary() *piece {
	return w.pick(2, w.a("bool"), w.a("bool"), func() *piece { return fixed(w.of(w.one("true", "false"))) }, func() *piece { return quiet(w.of("!", w.truthPrimary)) }, w.paren(w.truth))
}

// null writes nil.
func (w *writer) null() *piece {
	p := w.of("nil")
	p.quiet = always
	return p
}

// text writes a string.
func (w *writer) text() *piece {
	return w.pick(2, w.textPrimary, w.textPrimary, func() *piece { return folded(w.of(w.text, " + ", w.textPrimary)) })
}

func (w *writer) textPrimary() *piece { return w.pick(2, w.a("text"), w.quote, w.paren(w.text)) }

// slice writes a []int.
func (w *writer) slice() *piece {
	return w.pick(1, w.a("slice"), w.as("[]int{", w.number, ", ", w.number, "}"), w.as(w.structure, ".a"), w.as(w.pointer, ".a"), w.as("append(", w.slice, ", ", w.number, ")"),
		w.as("append(", w.slice, ", ", w.slice, "...)"), w.as("make([]int, ", w.a("int"), ")"), w.paren(w.slice))
}

// structure writes a T.
func (w *writer) structure() *piece {
	return w.pick(1, w.a("struct"), w.composite, w.paren(w.as("*", w.pointer)), w.as("T(", w.structure, ")"), w.paren(w.structure))
}

func (w *writer) composite() *piece {
	if w.inHead {
		return w.paren(w.composite)()
	}
	return w.pick(1, w.as("T{}"), w.as("T{f: ", w.number, ", a: ", w.slice, "}"), w.as("T{n: ", w.pointer, ", k: ", w.fun, "}"))
}

// pointer writes a *T.
func (w *writer) pointer() *piece {
	v := w.some("struct")
	return w.pick(1, w.a("pointer"), w.as("(*T)(", w.null, ")"), w.paren(w.as("&", w.composite)), w.as("new(T)"), w.paren(w.point(v, "&", w.load(v))),
		w.through(v, "", ".M", "(", w.number, ")"),
		w.as(w.pointer, ".M(", w.number, ")"), w.as(w.a("face"), ".M(", w.number, ")"), w.as(w.structure, ".n"), w.as(w.pointer, ".n"))
}

// cell writes a pointer to an int.
func (w *writer) cell() *piece {
	v, s := w.some("int"), w.some("struct")
	return w.pick(1, w.point(v, "&", w.load(v)), w.point(s, "&", w.as(w.load(s), w.one(".f", ".h"))), w.point(s, "&", w.as(w.as(w.load(s), ".U"), ".h")),
		w.point(s, "&", w.as(w.paren(w.load(s)), ".f")), w.as("&", w.as(w.pointer, w.one(".f", ".h"))), w.as("&", w.as(w.slice, "[", w.number, "]")))
}

// fun writes a func() int that is no Func.
func (w *writer) fun() *piece {
	return w.pick(1, w.a("func"), w.as(w.structure, ".k"), w.as(w.pointer, ".k"), w.paren(w.a("func")))
}

// lit writes a FuncLit.
func (w *writer) lit() *piece {
	s := &span{}
	w.lits = append(w.lits, s)
	arounds, inHead, deep := w.arounds, w.inHead, w.deep
	w.arounds, w.inHead = nil, false
	w.inLit++
	p := w.of("func(", func() { w.visible = append(w.visible, []*variable{w.declare("int")}) }, " int) int ", func() { w.block(w.back) })
	w.visible = w.visible[:len(w.visible)-1]
	w.arounds, w.inHead, w.deep = arounds, inHead, deep
	w.inLit--
	p.parts = nil
	*s = p.span
	return p
}
