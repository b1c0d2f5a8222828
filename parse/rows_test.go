package parse_test

import (
	"strings"
	"testing"

	"recast/api"
	"recast/parse"
	"recast/scan"
)

var calls = map[string]func(string) (api.Node, api.Fault){"FILE": parse.File, "ONLYTYPE": parse.Type, "ONLYEXPR": parse.Value}

// place is where rows of tokens are laid: behind what stands ahead of them.
type place struct {
	name, form, ahead string
	count             int
	texts             string
}

// The tokens of each place are those of the forms that could stand there, some that could not, and a string that
// says what a sign is.
var places = []place{
	{"a type", "ONLYTYPE", "", 6, `a . * [ ] chan func ( ) , ... struct interface { } ; 1 | "("`},
	{"a func type", "ONLYTYPE", "func (", 7, `a . * [ ] func ( ) , ... ;`},
	{"a struct", "ONLYTYPE", "struct {", 7, `a . * [ ] ( ) , ; } ... | "a"`},
	{"an interface", "ONLYTYPE", "interface {", 7, `a . ( ) , ; } ... * | func "a"`},
	{"an expression", "ONLYEXPR", "", 4, `a 1 "s" "(" . * - <- + == || ! & [ ] chan func ( ) , ... struct { } ; : = := ++ if type |`},
	{"an argument", "ONLYEXPR", "f (", 5, `a . * [ ] chan struct interface { } ( ) , ... + func : ;`},
	{"an index", "ONLYEXPR", "f [", 6, `a . * [ ] chan struct { } ( ) , ... : ;`},
	{"elements", "ONLYEXPR", "T {", 6, `a 1 . : , { } ( ) + [ ] ... ;`},
	{"a func literal", "ONLYEXPR", "func", 8, `a ( ) , ... { } [ ] * ; .`},
	{"an assertion", "ONLYEXPR", "a . (", 6, `a . * [ ] ( ) type chan func { } , ;`},
	{"a file", "FILE", "", 8, `package a ; import "s" var = const type func 1 ( ) { }`},
	{"a declaration", "FILE", "package a ;", 6, `a var const type func import = ( ) { } [ ] ; 1 struct * .`},
	{"a function", "FILE", "package a ; func", 8, `a ( ) * [ ] , ... | { } ; .`},
	{"type parameters", "FILE", "package a ; func f [", 8, `a ] , | * . ( ) { } ; ...`},
	{"a statement", "FILE", "package a ; func f ( ) {", 4, `a 1 "s" . , ; { } ( ) [ ] + - <- = := += -= *= /= %= ++ -- ... : var const type func go defer return break continue if else for range switch select case default import package struct chan goto fallthrough map`},
	{"a simple one", "FILE", "package a ; func f ( ) {", 6, `a . , ; { } ( ) <- = := += ++ :`},
	{"an if", "FILE", "package a ; func f ( ) { if", 6, `a . , ; { } ( ) <- = := ++ else if [ ] func`},
	{"behind an else", "FILE", "package a ; func f ( ) { if a { } else", 6, `a ; { } else if for ( )`},
	{"a for", "FILE", "package a ; func f ( ) { for", 6, `a . , ; { } ( ) <- = := ++ range [ ]`},
	{"a for of three", "FILE", "package a ; func f ( ) { for a := a ;", 7, `a . , ; { } ( ) <- := range`},
	{"a range", "FILE", "package a ; func f ( ) { for a , a", 7, `a . , ; { } ( ) = := range`},
	{"a switch", "FILE", "package a ; func f ( ) { switch", 7, `a . , ; { } ( ) := case default : [ ]`},
	{"cases", "FILE", "package a ; func f ( ) { switch a {", 7, `a , ; { } ( ) : case default return break`},
	{"a select", "FILE", "package a ; func f ( ) { select {", 7, `a , ; } <- := = : case default ( ) { -`},
	{"a comm", "FILE", "package a ; func f ( ) { select { case", 6, `a . , ; { } ( ) <- := = : + ! [ ]`},
	{"a go", "FILE", "package a ; func f ( ) { go", 6, `a 1 . , ; { } ( ) [ ] - + <- func ...`},
	{"a defer", "FILE", "package a ; func f ( ) { defer", 6, `a . ; { } ( ) [ ] * func`},
	{"a return", "FILE", "package a ; func f ( ) { return", 6, `a , ; { } ( ) = + case`},
	{"a return in a case", "FILE", "package a ; func f ( ) { switch a { default : return", 6, `a , ; { } case default :`},
	{"a var", "FILE", "package a ; func f ( ) { var", 7, `a . = ; } ( ) * [ ] ,`},
	{"a const", "FILE", "package a ; const", 7, `a . = ; ( ) * [ ] ,`},
}

// TestRows holds all rows of tokens, as far as they may follow one another and one token further, against the
// grammar: the fault is at the first token that may not follow, and there is none but where the grammar has one.
func TestRows(t *testing.T) {
	for _, x := range places {
		t.Run(x.name, func(t *testing.T) {
			t.Parallel()
			l := newLayer(t, x)
			l.lay(x.ahead, x.count)
			if l.laid < 900 {
				t.Errorf("%d rows", l.laid)
			}
		})
	}
}

// layer lays rows of tokens in a place.
type layer struct {
	*testing.T
	*reading
	place
	texts []string
	marks []api.Token // the tokens of the texts
	laid  int
}

func newLayer(t *testing.T, x place) *layer {
	l := &layer{T: t, reading: newReading(x.form), place: x, texts: strings.Fields(x.texts)}
	for _, text := range strings.Fields(x.ahead) {
		if !l.read(token(text)) {
			t.Fatalf("%s may not stand there in %q", text, x.ahead)
		}
	}
	for _, text := range l.texts {
		l.marks = append(l.marks, token(text))
	}
	return l
}

// token is a text's first token.
func token(text string) api.Token {
	tokens, _ := scan.Tokens(text)
	return tokens[0]
}

// lay lays each token behind what was read, and further ones behind those that may follow.
func (l *layer) lay(src string, count int) {
	read := len(l.sets) - 1
	for i, text := range l.texts {
		whole := src + " " + text
		l.laid++
		want := api.Fault{Code: api.FaultSyntax, At: len(src) + 1}
		may := l.read(l.marks[i])
		if may {
			want = l.ended(whole, read+1)
		}
		if n, got := calls[l.place.form](whole); got != want || (n.Kind == 0) != (want.Code != 0) {
			l.Fatalf("P5.1: %s of %q: %v, kind %d, want %v", l.place.form, whole, got, n.Kind, want)
		}
		if may && count > 1 {
			l.lay(whole, count-1)
		}
		l.unread(read)
	}
}

// ended is the fault of a source of so many tokens that may follow one another, which ends there.
func (l *layer) ended(src string, read int) api.Fault {
	defer l.unread(read)
	tokens, _ := scan.Tokens(src)
	for _, x := range tokens[read:] {
		if !l.read(x) {
			return api.Fault{Code: api.FaultSyntax, At: x.From}
		}
	}
	return api.Fault{}
}

// faultOf is the fault of a source by the grammar.
func faultOf(r *reading, src string) api.Fault {
	tokens, fault := scan.Tokens(src)
	if fault.Code != 0 {
		return fault
	}
	if i := r.wrongOf(tokens); i >= 0 {
		return api.Fault{Code: api.FaultSyntax, At: tokens[i].From}
	}
	return api.Fault{}
}
