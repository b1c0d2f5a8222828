package types

import (
	"strings"

	"recast/api"
)

// piece is a part of a type's text: a text as it stands, or the text of another type.
type piece struct {
	text string
	of   *api.Type // nil: text stands for itself
}

// line is a row of pieces.
type line struct {
	pieces []piece
}

// put lays texts behind what there is.
func (l *line) put(texts ...string) {
	for _, t := range texts {
		l.pieces = append(l.pieces, piece{text: t})
	}
}

// tell lays the texts of types behind what there is, with one between.
func (l *line) tell(between string, types ...*api.Type) {
	for i, t := range types {
		if i > 0 {
			l.put(between)
		}
		l.pieces = append(l.pieces, piece{of: t})
	}
}

// Text is a type's text.
func Text(t api.Type) string {
	var b strings.Builder
	walk(func(p piece) ([]piece, bool) {
		if p.of == nil {
			b.WriteString(p.text)
			return nil, true
		}
		var l line
		l.lay(p.of)
		return l.pieces, true
	}, piece{of: &t})
	return b.String()
}

// lay puts down a type's text, with the texts of those within it still to be told.
func (l *line) lay(t *api.Type) {
	switch t.Kind {
	case api.TypeNamed, api.TypeParam:
		l.put(t.Name)
	case api.TypePointer:
		l.put("*")
		l.tell("", one(t)...)
	case api.TypeSlice:
		l.put("[]")
		l.tell("", one(t)...)
	case api.TypeChan:
		l.put("chan ")
		l.tell("", one(t)...)
	case api.TypeFunc:
		l.put("func")
		l.signature(t)
	case api.TypeStruct:
		l.members(t, "struct {", "struct {}", l.field)
	case api.TypeInterface:
		l.members(t, "interface {", "any", l.method)
	case api.TypeUnion:
		l.union(t)
	case api.TypeTuple:
		l.inBrackets(kids(t))
	default:
		l.put(word(t.Kind))
	}
}

// word is the text of a kind that has no other parts.
func word(kind int) string {
	switch kind {
	case api.TypeInt:
		return "int"
	case api.TypeString:
		return "string"
	case api.TypeBool:
		return "bool"
	case api.TypeConstInt:
		return "constant int"
	case api.TypeConstStr:
		return "constant string"
	case api.TypeConstBool:
		return "constant bool"
	case api.TypeNil:
		return "nil"
	}
	return ""
}

// one is where the kid of a type stands that has one.
func one(t *api.Type) []*api.Type {
	all := kids(t)
	return all[:min(1, len(all))]
}

// inBrackets lays a list within brackets.
func (l *line) inBrackets(types []*api.Type) {
	l.put("(")
	l.tell(", ", types...)
	l.put(")")
}

// signature lays a function's text without its `func`.
func (l *line) signature(t *api.Type) {
	all := kids(t)
	count := min(max(0, t.N), len(all))
	params, results := all[:count], all[count:]
	l.put("(")
	if t.Flag && count > 0 {
		l.tell(", ", params[:count-1]...)
		if count > 1 {
			l.put(", ")
		}
		l.put("...")
		l.tell("", element(params[count-1])...)
	} else {
		l.tell(", ", params...)
	}
	l.put(")")
	switch len(results) {
	case 0:
	case 1:
		l.put(" ")
		l.tell("", results...)
	default:
		l.put(" ")
		l.inBrackets(results)
	}
}

// element is where stands what is told of a parameter that takes any number: what the slice has, if it is one.
func element(t *api.Type) []*api.Type {
	if t.Kind == api.TypeSlice {
		return one(t)
	}
	return []*api.Type{t}
}

// members lays what a struct or an interface has, each as lay does it; or the text of none.
func (l *line) members(t *api.Type, opening, none string, lay func(t *api.Type, i int)) {
	if len(t.Kids) == 0 {
		l.put(none)
		return
	}
	l.put(opening)
	for i := range t.Kids {
		if i > 0 {
			l.put(";")
		}
		l.put(" ")
		lay(t, i)
	}
	l.put(" }")
}

// field lays a field of a struct.
func (l *line) field(t *api.Type, i int) {
	if i >= len(t.Marks) || !t.Marks[i] {
		l.put(nameOf(t, i), " ")
	}
	l.tell("", &t.Kids[i])
}

// method lays a method of an interface.
func (l *line) method(t *api.Type, i int) {
	l.put(nameOf(t, i))
	if t.Kids[i].Kind == api.TypeFunc {
		l.signature(&t.Kids[i])
		return
	}
	l.tell("", &t.Kids[i])
}

// nameOf is the name of a field or method; empty, where Make left it out.
func nameOf(t *api.Type, i int) string {
	if i < len(t.Names) {
		return t.Names[i]
	}
	return ""
}

// union lays the text of a constraint.
func (l *line) union(t *api.Type) {
	if t.N == anyComparable {
		l.put("comparable")
		return
	}
	l.tell(" | ", kids(t)...)
}
