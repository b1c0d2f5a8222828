package parse_test

import (
	"slices"
	"strings"

	"recast/api"
)

// The chapter's grammar, written out: 'x' is a sign or word, NAME, INT, STR, SEMI and END are tokens, [ ] { } ( ) |
// are as there. A form with @ stands twice: as it is, and with _ for what stands in a head outside of brackets,
// where a line that begins with + is wanting.
const grammar = `
FILE: 'package' NAME SEMI { IMPORT SEMI } { DECL SEMI } END
ONLYTYPE: TYPE [ SEMI ] END
ONLYEXPR: EXPR [ SEMI ] END
IMPORT: 'import' STR
DECL: FUNC | VAR | CONST | TYPEDECL
VAR: 'var' NAME ( TYPE | '=' EXPR | TYPE '=' EXPR )
CONST: 'const' NAME [ TYPE ] '=' EXPR
TYPEDECL: 'type' NAME TYPE
FUNC: 'func' NAME [ '[' TPARAM { ',' TPARAM } [ ',' ] ']' ] PARAMS RESULTS BLOCK
FUNC: 'func' '(' NAME [ '*' ] NAME ')' NAME PARAMS RESULTS BLOCK
TPARAM: NAME CONSTRAINT
CONSTRAINT: TYPE { '|' TYPE }
PARAMS: '(' ')' | '(' { NAME TYPE ',' } NAME [ '...' ] TYPE [ ',' ] ')'
RESULTS: [ TYPE | TYPELIST ]
TYPELIST: '(' TYPE { ',' TYPE } [ ',' ] ')'
TYPE: NAME | NAME '.' NAME | '*' TYPE | '[' ']' TYPE | 'chan' TYPE | '(' TYPE ')'
TYPE: 'func' '(' ')' RESULTS | 'func' '(' { TYPE ',' } [ '...' ] TYPE [ ',' ] ')' RESULTS
TYPE: 'struct' '{' { FIELD SEMI } [ FIELD ] '}' | 'interface' '{' { ELEM SEMI } [ ELEM ] '}'
FIELD: NAME TYPE | NAME [ '.' NAME ]
ELEM: NAME ( '(' ')' | TYPELIST ) RESULTS | NAME [ '.' NAME ]
BLOCK: '{' ROW '}'
ROW: { [ STMT ] SEMI } [ STMT ]
STMT: VAR | CONST | BLOCK | SIMPLE | 'go' CALL | 'defer' CALL | 'return' [ EXPRS ] | 'break' | 'continue' | IF | FOR
STMT: 'switch' EXPR_ '{' { ( 'case' EXPRS | 'default' ) ':' ROW } '}'
STMT: 'select' '{' { ( 'case' SEND | 'case' RECEIVE | 'default' ) ':' ROW } '}'
IF: 'if' [ SIMPLE_ SEMI ] EXPR_ BLOCK [ 'else' ( IF | BLOCK ) ]
FOR: 'for' [ EXPR_ ] BLOCK | 'for' [ SIMPLE_ ] SEMI [ EXPR_ ] SEMI [ SIMPLE_ ] BLOCK
FOR: 'for' [ NAME [ ',' NAME ] ':=' ] 'range' EXPR_ BLOCK
EXPRS@: EXPR@ { ',' EXPR@ }
SIMPLE@: EXPR@ | EXPR@ '<-' EXPR@ | EXPRS@ '=' EXPRS@ | EXPR@ '++' | EXPR@ '--' | NAME { ',' NAME } ':=' EXPRS@
SIMPLE@: EXPR@ ( '+=' | '-=' | '*=' | '/=' | '%=' ) EXPR@
SEND: EXPR '<-' EXPR
RECEIVE: [ NAME [ ',' NAME ] ':=' ] '<-' UNARY
CALL: PRIMARY ARGS
ARGS: '(' ')' | '(' { ARG ',' } ARG [ '...' ] [ ',' ] ')'
ARG: EXPR | '[' ']' TYPE | 'chan' TYPE | 'struct' '{' { FIELD SEMI } [ FIELD ] '}' | 'interface' '{' { ELEM SEMI } [ ELEM ] '}'
EXPR@: UNARY@ { SIGN UNARY@ }
SIGN: '||' | '&&' | '==' | '!=' | '<' | '<=' | '>' | '>=' | '+' | '-' | '*' | '/' | '%'
UNARY@: PRIMARY@ | ( '-' | '!' | '&' | '*' | '<-' ) UNARY@
PRIMARY@: OPERAND@ { '.' NAME | '.' '(' TYPE ')' | '[' { ARG ',' } ARG [ ',' ] ']' | ARGS }
OPERAND@: NAME | INT | STR | '(' EXPR ')' | 'func' PARAMS RESULTS BLOCK | '[' ']' TYPE ELEMENTS
+OPERAND@: NAME ELEMENTS | NAME '.' NAME ELEMENTS
ELEMENTS: '{' '}' | '{' ELEMENT { ',' ELEMENT } [ ',' ] '}'
ELEMENT: EXPR | NAME ':' EXPR
`

// rules are the grammar as rows of parts: each part is the name of a form, or of a token.
type rules struct {
	parts [][]int // of each rule
	of    [][]int // the rules of each form
	names []string
	empty []bool // whether nothing at all is one of the form
}

// number is the number of a form or token.
func (g *rules) number(name string) int {
	if i := slices.Index(g.names, name); i >= 0 {
		return i
	}
	g.names = append(g.names, name)
	g.of = append(g.of, nil)
	return len(g.names) - 1
}

func (g *rules) add(form int, parts []int) {
	g.of[form] = append(g.of[form], len(g.parts))
	g.parts = append(g.parts, parts)
}

// fresh is a form of its own for what stands in brackets.
func (g *rules) fresh() int { return g.number("in brackets " + string(rune(len(g.names)))) }

// choices takes up what stands up to the closing sign as rules of a form, and is the rest behind that sign.
func (g *rules) choices(form int, text []string, closing string) []string {
	parts := []int{}
	for len(text) > 0 && text[0] != closing {
		word := text[0]
		text = text[1:]
		switch word {
		case "|":
			g.add(form, parts)
			parts = []int{}
		case "(":
			inner := g.fresh()
			text = g.choices(inner, text, ")")
			parts = append(parts, inner)
		case "[":
			inner := g.fresh()
			text = g.choices(inner, text, "]")
			g.add(inner, nil)
			parts = append(parts, inner)
		case "{":
			inner, many := g.fresh(), g.fresh()
			text = g.choices(inner, text, "}")
			g.add(many, nil)
			g.add(many, []int{many, inner})
			parts = append(parts, many)
		default:
			parts = append(parts, g.number(word))
		}
	}
	g.add(form, parts)
	if len(text) > 0 {
		text = text[1:]
	}
	return text
}

// rulesOf are the rules of the grammar that begin with a form.
func rulesOf(form string) *rules {
	g := &rules{}
	begin := g.number("BEGIN")
	g.add(begin, []int{g.number(form)})
	for _, line := range strings.Split(strings.TrimSpace(grammar), "\n") {
		marks := []string{""}
		if strings.Contains(line, "@") {
			marks = []string{"", "_"}
		}
		if strings.HasPrefix(line, "+") {
			line, marks = line[1:], []string{""}
		}
		for _, mark := range marks {
			words := strings.Fields(strings.ReplaceAll(line, "@", mark))
			name := strings.TrimSuffix(words[0], ":")
			g.choices(g.number(name), words[1:], "")
		}
	}
	g.empty = make([]bool, len(g.names))
	for again := true; again; {
		again = false
		for form, l := range g.of {
			for _, r := range l {
				all := !slices.ContainsFunc(g.parts[r], func(x int) bool { return !g.empty[x] })
				if all && !g.empty[form] {
					g.empty[form], again = true, true
				}
			}
		}
	}
	return g
}

// item is a rule of which some parts are done, begun at a token.
type item struct{ rule, done, from int }

// reading reads tokens one by one, by the grammar alone: each set has all items that the tokens ahead of it leave.
type reading struct {
	*rules
	sets [][]item
	form []int // of each rule
}

func newReading(form string) *reading {
	g := rulesOf(form)
	r := &reading{rules: g, form: make([]int, len(g.parts))}
	for form, l := range g.of {
		for _, rule := range l {
			r.form[rule] = form
		}
	}
	r.close([]item{{}})
	return r
}

// close adds to a set what its items ask for, and takes it up.
func (r *reading) close(set []item) {
	at := len(r.sets)
	has := map[item]bool{}
	for _, x := range set {
		has[x] = true
	}
	add := func(x item) {
		if !has[x] {
			has[x] = true
			set = append(set, x)
		}
	}
	r.sets = append(r.sets, nil)
	for i := 0; i < len(set); i++ {
		x := set[i]
		if x.done < len(r.parts[x.rule]) {
			next := r.parts[x.rule][x.done]
			for _, rule := range r.of[next] {
				add(item{rule, 0, at})
			}
			if r.empty[next] {
				add(item{x.rule, x.done + 1, x.from})
			}
			continue
		}
		waiting := r.sets[x.from]
		if x.from == at {
			waiting = set
		}
		for _, y := range waiting {
			if y.done < len(r.parts[y.rule]) && r.parts[y.rule][y.done] == r.form[x.rule] {
				add(item{y.rule, y.done + 1, y.from})
			}
		}
	}
	r.sets[at] = set
}

// read reads a token, and tells whether it may follow those that were read.
func (r *reading) read(t api.Token) bool {
	want := slices.Index(r.names, nameOf(t))
	var set []item
	for _, x := range r.sets[len(r.sets)-1] {
		if x.done < len(r.parts[x.rule]) && r.parts[x.rule][x.done] == want {
			set = append(set, item{x.rule, x.done + 1, x.from})
		}
	}
	if len(set) == 0 {
		return false
	}
	r.close(set)
	return true
}

// unread goes back to when so many tokens were read.
func (r *reading) unread(count int) { r.sets = r.sets[:count+1] }

// nameOf is a token's name in the grammar.
func nameOf(t api.Token) string {
	switch t.Kind {
	case api.TokIdent:
		return "NAME"
	case api.TokInt:
		return "INT"
	case api.TokStr:
		return "STR"
	case api.TokSemi:
		return "SEMI"
	case api.TokEnd:
		return "END"
	}
	return "'" + t.Text + "'"
}

// wrongOf is the number of the first token that may not follow, or -1.
func (r *reading) wrongOf(tokens []api.Token) int {
	r.unread(0)
	return slices.IndexFunc(tokens, func(t api.Token) bool { return !r.read(t) })
}
