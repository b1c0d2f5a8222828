package flow_test

// block writes a Block of some statements, and an end.
func (w *writer) block(end func()) {
	w.stmt("{\n", func() { w.rows(end) }, "}")
}

// rows writes statements, one a line, in which variables are seen no longer than they go on, and an end.
func (w *writer) rows(end func()) {
	w.deep++
	w.visible = append(w.visible, nil)
	owed := w.owed
	w.owed = nil
	for _, v := range owed {
		w.stmt("_ = ", w.load(v))
		w.WriteString("\n")
	}
	for range w.IntN(4) {
		w.some1()
		w.WriteString("\n")
	}
	for _, v := range w.visible[len(w.visible)-1] {
		w.stmt("_ = ", w.load(v))
		w.WriteString("\n")
	}
	end()
	w.visible = w.visible[:len(w.visible)-1]
	w.deep--
}

// none is the end of most Blocks.
func none() {}

// back writes a Return of a FuncLit.
func (w *writer) back() {
	p := w.stmt("return ", w.number)
	w.jumps = append(w.jumps, jump{p.span, nil})
	w.WriteString("\n")
}

// head writes what stands ahead of a Block.
func (w *writer) head(x func() *piece) func() *piece {
	return func() *piece {
		w.inHead = true
		p := x()
		w.inHead = false
		return p
	}
}

// some1 writes a statement.
func (w *writer) some1() {
	simple := []func(){w.blank, w.blank, w.assign, w.assign, w.assigns, w.reckon, w.reckon, w.define, w.define, w.defines, w.call1, w.call1, w.send, w.start, w.leave}
	if w.deep > 3 {
		simple[w.IntN(len(simple))]()
		return
	}
	compound := []func(){w.choice, w.choice, w.loop, w.loop, w.turns, w.turns, w.cases, w.waits, func() { w.block(none) }}
	if w.IntN(3) == 0 {
		compound[w.IntN(len(compound))]()
	} else {
		simple[w.IntN(len(simple))]()
	}
}

// blank writes an Assign to `_`.
func (w *writer) blank() {
	all := []func() *piece{w.number, w.truth, w.text, w.slice, w.structure, w.pointer, w.cell, w.fun, w.lit, w.as("&", w.composite), w.as("any(", w.number, ")"), w.as("b.E{", w.number, "}")}
	w.stmt("_ = ", all[w.IntN(len(all))])
}

// store is what writes a variable that is assigned to.
func (w *writer) store(v *variable) func() {
	return func() {
		w.mention(v)
		w.stored = append(w.stored, v)
	}
}

// place writes an int that is assigned to.
func (w *writer) place() []step {
	s := w.some("struct")
	note := func() { w.stored = append(w.stored, s) }
	all := [][]item{
		{w.store(w.some("int"))}, {w.store(w.all[0])}, {w.load(s), w.one(".f", ".h"), note}, {w.as(w.load(s), ".U"), ".h", note}, {w.paren(w.load(s)), ".h", note},
		{w.pointer, w.one(".f", ".h")}, {w.as(w.pointer, ".U"), ".h"}, {w.slice, "[", w.number, "]"}, {"*", w.cell}, {"_"}, {"b.", func() { w.mention(w.all[1]) }},
	}
	return w.write(all[w.IntN(len(all))]).parts
}

// assign writes an Assign of one.
func (w *writer) assign() {
	v := w.some("struct")
	all := [][]item{
		{w.place, " = ", w.number}, {w.place, " = ", w.number}, {w.store(w.some("bool")), " = ", w.truth}, {w.store(w.some("text")), " = ", w.text}, {w.store(v), " = ", w.structure},
		{"*", w.pointer, " = ", w.structure}, {w.store(w.some("pointer")), " = ", w.pointer}, {w.load(v), ".n", func() { w.stored = append(w.stored, v) }, " = ", w.pointer}, {w.pointer, ".a = ", w.slice},
		{w.store(w.some("int")), ", _ = ", w.as(w.a("any"), ".(int)")}, {"_, ", w.store(w.some("bool")), " = ", w.as("<-", w.a("chan"))}, {w.store(w.some("int")), ", ", w.place, " = ", w.as("two()")},
	}
	w.stmt(all[w.IntN(len(all))]...)
}

// assigns writes an Assign of several.
func (w *writer) assigns() {
	w.stmt(w.place, ", ", w.place, " = ", w.number, ", ", w.number)
}

// reckon writes an Assign of another sign than =, or an IncDec.
func (w *writer) reckon() {
	v, s := w.some("int"), w.some("struct")
	store, note := func() { w.stored = append(w.stored, v) }, func() { w.stored = append(w.stored, s) }
	places := [][]item{
		{w.load(v), store}, {w.paren(w.load(v)), store}, {w.as(w.load(s), ".f"), note}, {w.as(w.as(w.load(s), ".U"), ".h"), note}, {w.as(w.pointer, ".f")}, {w.as(w.slice, "[", w.number, "]")}, {w.as("*", w.cell)},
	}
	place := places[w.IntN(len(places))]
	if w.IntN(2) == 0 {
		w.stmt(append(place, w.one("++", "--"))...)
	} else {
		w.stmt(append(place, w.one(" += ", " -= ", " *= "), w.number)...)
	}
}

// define writes a Define or a Var of one.
func (w *writer) define() {
	var v *variable
	kinds := []string{"int", "bool", "text", "slice", "struct", "pointer", "func"}
	values := []func() *piece{w.number, w.truth, w.text, w.slice, w.structure, w.pointer, w.fun}
	types := []string{"int", "bool", "string", "[]int", "T", "*T", "func() int"}
	i := w.IntN(len(kinds))
	declare := func() { v = w.declare(kinds[i]) }
	switch w.IntN(4) {
	case 0:
		w.stmt("var ", declare, " = ", values[i])
	case 1:
		w.stmt("var ", declare, " ", types[i], " = ", values[i])
	case 2:
		w.stmt("var ", declare, " ", types[i])
	default:
		w.stmt(declare, " := ", values[i])
	}
	w.show(v)
}

// defines writes a Define of several.
func (w *writer) defines() {
	var v, x *variable
	one, other := func() { v = w.declare("int") }, func() { x = w.declare("bool") }
	block := w.visible[len(w.visible)-1]
	old := []*variable{nil}
	for _, o := range block {
		if o.kind == "int" {
			old = append(old, o)
		}
	}
	switch o := old[w.IntN(len(old))]; {
	case o != nil && w.IntN(2) == 0:
		w.stmt(one, ", ", w.store(o), " := ", w.number, ", ", w.number)
	case o != nil:
		w.stmt(w.store(o), ", ", one, " := ", w.as("two()"))
	case w.IntN(2) == 0:
		w.stmt(one, ", ", other, " := ", w.as("<-", w.a("chan")))
	default:
		w.stmt(one, ", ", other, " := ", w.number, ", ", w.truth)
	}
	w.show(v)
	if x != nil {
		w.show(x)
	}
}

// call1 writes an ExprStmt.
func (w *writer) call1() {
	switch w.IntN(7) {
	case 3, 4:
		w.stmt(w.as(w.lit, "(", w.number, ")"))
	case 0:
		w.stmt(w.as("print(", w.number, ", ", w.text, ", ", w.truth, ")"))
	case 1:
		w.stmt(w.as("<-", w.a("chan")))
	case 2:
		p := w.stmt(w.as(w.one("recover()")))
		w.recovers = append(w.recovers, p.span)
	default:
		w.stmt(w.call)
	}
}

// send writes a Send.
func (w *writer) send() { w.stmt(w.a("chan"), " <- ", w.number) }

// start writes a Go or a Defer.
func (w *writer) start() {
	parts := func() []step { return w.call().parts }
	if w.IntN(2) == 0 {
		w.stmt("go ", parts)
		return
	}
	p := w.stmt("defer ", parts)
	w.recovers = append(w.recovers, p.span)
}

// leave writes a Return, a Break or a Continue, where it may stand.
func (w *writer) leave() {
	var loops []around
	for _, a := range w.arounds {
		if a.loop {
			loops = append(loops, a)
		}
	}
	switch {
	case w.IntN(2) == 0 && len(w.arounds) > 0:
		p := w.stmt("break")
		w.jumps = append(w.jumps, jump{p.span, w.arounds[len(w.arounds)-1].span})
	case len(loops) > 0:
		p := w.stmt("continue")
		w.jumps = append(w.jumps, jump{p.span, loops[len(loops)-1].span})
	case w.inLit > 0:
		w.back()
	default:
		p := w.stmt("return")
		w.jumps = append(w.jumps, jump{p.span, nil})
	}
}

// within writes a statement that Breaks mean.
func (w *writer) within(loop bool, items ...item) {
	s := &span{}
	w.arounds = append(w.arounds, around{s, loop})
	w.visible = append(w.visible, nil)
	*s = w.stmt(items...).span
	w.visible = w.visible[:len(w.visible)-1]
	w.arounds = w.arounds[:len(w.arounds)-1]
}

// unordered is what writes parts that are evaluated just perhaps.
func (w *writer) unordered(items ...item) func() {
	return func() { w.write(items) }
}

// choice writes an If.
func (w *writer) choice() {
	w.visible = append(w.visible, nil)
	items := []item{"if ", w.head(w.truth)}
	if w.IntN(3) == 0 {
		items = []item{"if ", w.simple, "; ", w.unordered(w.head(w.truth))}
	}
	items = append(items, " ", func() { w.block(none) })
	switch w.IntN(4) {
	case 0:
		items = append(items, " else ", func() { w.block(none) })
	case 1:
		if w.deep < 4 {
			w.deep++
			items = append(items, " else ", func() { w.choice(); w.deep-- })
		}
	}
	w.stmt(items...)
	w.visible = w.visible[:len(w.visible)-1]
}

// simple writes a SIMPLE of a head.
func (w *writer) simple() {
	w.inHead = true
	switch w.IntN(4) {
	case 0:
		w.assign()
	case 1:
		w.reckon()
	case 2:
		w.call1()
	default:
		var v *variable
		w.stmt(func() { v = w.declare("int") }, " := ", w.number)
		w.show(v)
		w.owed = append(w.owed, v)
	}
	w.inHead = false
}

// loop writes a For.
func (w *writer) loop() {
	block := func() { w.block(none) }
	switch w.IntN(3) {
	case 0:
		w.within(true, "for ", block)
	case 1:
		w.within(true, "for ", w.unordered(w.head(w.truth)), " ", block)
	default:
		w.within(true, "for ", w.simple, "; ", w.unordered(w.head(w.truth)), "; ", func() {
			w.inHead = true
			w.reckon()
			w.inHead = false
		}, " ", block)
	}
}

// turns writes a Range.
func (w *writer) turns() {
	block := func() { w.block(none) }
	switch w.IntN(4) {
	case 0:
		w.within(true, "for range ", w.head(w.number), " ", block)
	case 1:
		// What is declared is not to be seen in the expression.
		var v *variable
		w.within(true, "for ", func() { v = w.declare("int") }, " := range ", w.head(w.number), " ", func() { w.show(v); w.owed = append(w.owed, v) }, block)
	case 2:
		w.within(true, "for range ", w.head(w.a("slice")), " ", block)
	default:
		var v *variable
		w.within(true, "for _, ", func() { v = w.declare("int") }, " := range ", w.a("slice"), " ", func() { w.show(v); w.owed = append(w.owed, v) }, block)
	}
}

// cases writes a Switch.
func (w *writer) cases() {
	items := []item{"switch ", w.head(w.number), " {\n"}
	for range w.IntN(3) {
		items = append(items, "case ", w.unordered(w.number, ", ", w.number), ":\n", func() { w.rows(none) })
	}
	if w.IntN(2) == 0 {
		items = append(items, "default:\n", func() { w.rows(none) })
	}
	w.within(false, append(items, "}")...)
}

// waits writes a Select.
func (w *writer) waits() {
	items := []item{"select {\n"}
	for range w.IntN(3) {
		items = append(items, "case ", w.send, ":\n", func() { w.rows(none) })
		items = append(items, "case ", func() {
			w.visible = append(w.visible, nil)
			w.show(w.declare("int"))
		}, " := <-", w.unordered(w.a("chan")), ":\n", func() {
			w.stmt("_ = ", w.load(w.visible[len(w.visible)-1][0]))
			w.WriteString("\n")
			w.rows(none)
			w.visible = w.visible[:len(w.visible)-1]
		})
	}
	w.within(false, append(items, "}")...)
}

// function writes a file, with a function main of a variable of each kind, and of some statements.
func (w *writer) function() {
	w.all = []*variable{{name: "y", kind: "a package's"}, {name: "W", kind: "a package's"}}
	w.WriteString(head + "}\ntype E2 b.E\nfunc main() ")
	w.stmt("{\n", func() {
		w.visible = append(w.visible, nil)
		for _, row := range [][2]string{
			{"int", " := 1"}, {"int", " := 2"}, {"int", " := 3"}, {"bool", " := true"}, {"bool", " := false"}, {"text", " := \"a\""}, {"slice", " := []int{1}"}, {"slice", " := ys"}, {"struct", " := T{}"}, {"struct", " := *new(T)"},
			{"pointer", " := new(T)"}, {"func", " := g"}, {"chan", " := make(chan int)"}, {"any", " := any(1)"}, {"face", " := J(new(T))"},
		} {
			v := w.declare(row[0])
			w.WriteString(row[1] + "; _ = ")
			w.mention(v)
			w.WriteString("\n")
			w.show(v)
		}
		w.begin = w.Len()
		for range 8 + w.IntN(9) {
			w.some1()
			w.WriteString("\n")
		}
		for _, v := range w.visible[0] {
			w.stmt("_ = ", w.load(v))
			w.WriteString("\n")
		}
	}, "}")
}
