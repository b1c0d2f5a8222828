package parse_test

import (
	"fmt"
	"strings"
	"testing"

	"recast/api"
	"recast/parse"
)

var kindNames = map[int]string{
	api.NodeFile: "File", api.NodeImport: "Import", api.NodeFunc: "Func", api.NodeVar: "Var", api.NodeConst: "Const",
	api.NodeType: "Type", api.NodeNone: "-", api.NodeRecv: "Recv", api.NodeTParams: "TParams", api.NodeParams: "Params",
	api.NodeParam: "Param", api.NodeResults: "Results", api.NodeTParam: "TParam", api.NodeUnion: "Union",
	api.NodePointer: "Pointer", api.NodeSlice: "Slice", api.NodeChan: "Chan", api.NodeFuncType: "FuncType",
	api.NodeStruct: "Struct", api.NodeInterface: "Interface", api.NodeTypes: "Types", api.NodeField: "Field",
	api.NodeEmbed: "Embed", api.NodeMethod: "Method", api.NodeIdent: "Ident", api.NodeSelector: "Selector",
	api.NodeInt: "Int", api.NodeStr: "Str", api.NodeParen: "Paren", api.NodeFuncLit: "FuncLit",
	api.NodeComposite: "Composite", api.NodeKeyed: "Keyed", api.NodeCall: "Call", api.NodeIndex: "Index",
	api.NodeAssert: "Assert", api.NodeUnary: "Unary", api.NodeBinary: "Binary", api.NodeBlock: "Block",
	api.NodeExprStmt: "ExprStmt", api.NodeSend: "Send", api.NodeAssign: "Assign", api.NodeDefine: "Define",
	api.NodeExprs: "Exprs", api.NodeIncDec: "IncDec", api.NodeGo: "Go", api.NodeDefer: "Defer",
	api.NodeReturn: "Return", api.NodeBreak: "Break", api.NodeContinue: "Continue", api.NodeIf: "If",
	api.NodeFor: "For", api.NodeRange: "Range", api.NodeSwitch: "Switch", api.NodeCase: "Case",
	api.NodeSelect: "Select", api.NodeComm: "Comm", api.NodeReceive: "Receive",
}

// shown is a tree as text: a kind with its Text, its kids in brackets; an Ident and an Int are their Text alone, a
// Str is its Text within quotes, None is a `-`.
func shown(n api.Node) string {
	s := kindNames[n.Kind] + n.Text
	switch n.Kind {
	case api.NodeIdent, api.NodeInt:
		s = n.Text
	case api.NodeStr:
		s = fmt.Sprintf("%q", n.Text)
	}
	var l []string
	for _, k := range n.Kids {
		l = append(l, shown(k))
	}
	if len(l) > 0 {
		s += "(" + strings.Join(l, " ") + ")"
	}
	return s
}

// told is a tree, or a fault, as text.
func told(n api.Node, f api.Fault) string {
	if f != (api.Fault{}) {
		s := fmt.Sprintf("fault %d at %d", f.Code, f.At)
		if n.Kind != 0 || n.From != 0 || n.To != 0 || n.Text != "" || len(n.Kids) > 0 || f.Path != "" {
			s += " and more"
		}
		return s
	}
	return shown(n)
}

// see holds the answers of a call against what is wanted.
func see(t *testing.T, call string, of func(string) (api.Node, api.Fault), table [][2]string) {
	t.Helper()
	for _, x := range table {
		if got := told(of(x[0])); got != x[1] {
			t.Errorf("%s(%q):\n got %s\nwant %s", call, x[0], got, x[1])
		}
	}
}

func TestTypeForms(t *testing.T) {
	see(t, "P5.1: Type", parse.Type, [][2]string{
		{"a", "a"}, {"a;", "a"}, {"a\n", "a"}, {"\n\n a // b\n", "a"}, {"a.b", "Selector(a b)"}, {"_", "_"},
		{"*a", "Pointer(a)"}, {"**a.b", "Pointer(Pointer(Selector(a b)))"}, {"[]a", "Slice(a)"}, {"[][]*a", "Slice(Slice(Pointer(a)))"}, {"[\n]a", "Slice(a)"}, {"[\n]\na", "fault 4 at 3"},
		{"chan a", "Chan(a)"}, {"chan chan []a", "Chan(Chan(Slice(a)))"}, {"(a)", "Paren(a)"}, {"((a.b))", "Paren(Paren(Selector(a b)))"}, {"*(a)", "Pointer(Paren(a))"},
		{"func()", "FuncType(Types Results)"}, {"func(a)", "FuncType(Types(a) Results)"}, {"func(a,)", "FuncType(Types(a) Results)"}, {"func(a, *b, []c)", "FuncType(Types(a Pointer(b) Slice(c)) Results)"},
		{"func(...a)", "FuncType...(Types(a) Results)"}, {"func(...a,)", "FuncType...(Types(a) Results)"}, {"func(a, ...b.c)", "FuncType...(Types(a Selector(b c)) Results)"}, {"func(a, ...b,)", "FuncType...(Types(a b) Results)"},
		{"func() a", "FuncType(Types Results(a))"}, {"func() a.b", "FuncType(Types Results(Selector(a b)))"}, {"func() *a", "FuncType(Types Results(Pointer(a)))"}, {"func() []a", "FuncType(Types Results(Slice(a)))"}, {"func() chan a", "FuncType(Types Results(Chan(a)))"},
		{"func() struct{}", "FuncType(Types Results(Struct))"}, {"func() interface{}", "FuncType(Types Results(Interface))"},
		{"func() (a)", "FuncType(Types Results(a))"}, {"func() (a,)", "FuncType(Types Results(a))"}, {"func() ((a))", "FuncType(Types Results(Paren(a)))"}, {"func() (a, b.c,)", "FuncType(Types Results(a Selector(b c)))"},
		{"func() func() a", "FuncType(Types Results(FuncType(Types Results(a))))"}, {"func() func() (a, b)", "FuncType(Types Results(FuncType(Types Results(a b))))"}, {"func(func(...a) b, ...func())", "FuncType...(Types(FuncType...(Types(a) Results(b)) FuncType(Types Results)) Results)"},
		{"func(int, ...T) (a.B, *c)", "FuncType...(Types(int T) Results(Selector(a B) Pointer(c)))"},
		{"struct{}", "Struct"}, {"struct {\n}", "Struct"}, {"struct { a }", "Struct(Embed(a))"}, {"struct { a; }", "Struct(Embed(a))"}, {"struct { a.b }", "Struct(Embed(Selector(a b)))"}, {"struct { a.b; }", "Struct(Embed(Selector(a b)))"},
		{"struct { a b }", "Struct(Field(a b))"}, {"struct { a b; c.d; e *f; g\n h (i)\n}", "Struct(Field(a b) Embed(Selector(c d)) Field(e Pointer(f)) Embed(g) Field(h Paren(i)))"}, {"struct { a func() }", "Struct(Field(a FuncType(Types Results)))"}, {"struct { a struct { b c; }; d []e }", "Struct(Field(a Struct(Field(b c))) Field(d Slice(e)))"},
		{"interface{}", "Interface"}, {"interface { I }", "Interface(Embed(I))"}, {"interface { I; }", "Interface(Embed(I))"}, {"interface { a.I; J }", "Interface(Embed(Selector(a I)) Embed(J))"},
		{"interface { M() }", "Interface(Method(M Types Results))"}, {"interface { M(); }", "Interface(Method(M Types Results))"}, {"interface { M(a); N(b, *c,) d; O() (e, f); I }", "Interface(Method(M Types(a) Results) Method(N Types(b Pointer(c)) Results(d)) Method(O Types Results(e f)) Embed(I))"}, {"interface {\n\tM(func(...a))\n\tN() func()\n}", "Interface(Method(M Types(FuncType...(Types(a) Results)) Results) Method(N Types Results(FuncType(Types Results))))"},
	})
}

func TestValueForms(t *testing.T) {
	see(t, "P5.1: Value", parse.Value, [][2]string{
		{"a", "a"}, {"a;", "a"}, {" a\n\n", "a"}, {"0", "0"}, {"120", "120"}, {`"a\n\t\"\\"`, `"a\n\t\"\\"`}, {`""`, `""`}, {`"("`, `"("`}, {"(a)", "Paren(a)"}, {"((1))", "Paren(Paren(1))"},
		{"a.b", "Selector(a b)"}, {"a.b.c", "Selector(Selector(a b) c)"}, {"(a).b", "Selector(Paren(a) b)"}, {"1.a", "Selector(1 a)"}, {`"s".a`, `Selector("s" a)`}, {"a.(b)", "Assert(a b)"}, {"a.(*b.c).d", "Selector(Assert(a Pointer(Selector(b c))) d)"}, {"a.(func())", "Assert(a FuncType(Types Results))"}, {"a.(chan []b)", "Assert(a Chan(Slice(b)))"},
		{"a[b]", "Index(a b)"}, {"a[b,]", "Index(a b)"}, {"a[b, 1,]", "Index(a b 1)"}, {"a[[]b, chan c, struct{}, interface{}]", "Index(a Slice(b) Chan(c) Struct Interface)"}, {"a[0][1]", "Index(Index(a 0) 1)"},
		{"f()", "Call(f)"}, {"f(a)", "Call(f a)"}, {"f(a,)", "Call(f a)"}, {"f(a, b)", "Call(f a b)"}, {"f(a...)", "Call...(f a)"}, {"f(a...,)", "Call...(f a)"}, {"f(a, b...,)", "Call...(f a b)"}, {"f(a)(b)()", "Call(Call(Call(f a) b))"}, {"f[int](a)", "Call(Index(f int) a)"}, {"f(g(a...), b)", "Call(f Call...(g a) b)"},
		{"f([]a)", "Call(f Slice(a))"}, {"f([]a...)", "Call...(f Slice(a))"}, {"f([]a{})", "Call(f Composite(Slice(a)))"}, {"f([]a{}[0] + 1)", "Call(f Binary+(Index(Composite(Slice(a)) 0) 1))"}, {"f([]a{}.b(c) == d || e)", "Call(f Binary||(Binary==(Call(Selector(Composite(Slice(a)) b) c) d) e))"}, {"f([]func(){}, []func() a{}, []func() a)", "Call(f Composite(Slice(FuncType(Types Results))) Composite(Slice(FuncType(Types Results(a)))) Slice(FuncType(Types Results(a))))"},
		{"make(chan a)", "Call(make Chan(a))"}, {"make(chan func(), 1)", "Call(make Chan(FuncType(Types Results)) 1)"}, {"f(struct{})", "Call(f Struct)"}, {"f(struct { a b }, interface { M() })", "Call(f Struct(Field(a b)) Interface(Method(M Types Results)))"}, {"f([]struct{}{})", "Call(f Composite(Slice(Struct)))"}, {"f([]chan a, *a, (a))", "Call(f Slice(Chan(a)) Unary*(a) Paren(a))"},
		{"T{}", "Composite(T)"}, {"T{a}", "Composite(T a)"}, {"T{a,}", "Composite(T a)"}, {"T{a: 1}", "Composite(T Keyed(a 1))"}, {"T{a: 1,}", "Composite(T Keyed(a 1))"}, {"T{a: 1, b, 2, c: d,}", "Composite(T Keyed(a 1) b 2 Keyed(c d))"}, {"p.T{a}", "Composite(Selector(p T) a)"}, {"p.T{}.a", "Selector(Composite(Selector(p T)) a)"}, {"T{}.a.b", "Selector(Selector(Composite(T) a) b)"}, {"T{}(a)[0]", "Index(Call(Composite(T) a) 0)"}, {"T{T{1}, U{a: T{}}}", "Composite(T Composite(T 1) Composite(U Keyed(a Composite(T))))"}, {"T{(a), a.b, a + b, a()}", "Composite(T Paren(a) Selector(a b) Binary+(a b) Call(a))"},
		{"[]a{}", "Composite(Slice(a))"}, {"[]a.b{1, 2}", "Composite(Slice(Selector(a b)) 1 2)"}, {"[][]*a{[]*a{}}", "Composite(Slice(Slice(Pointer(a))) Composite(Slice(Pointer(a))))"}, {"[]struct{ a b }{}", "Composite(Slice(Struct(Field(a b))))"}, {"[]func(){}", "Composite(Slice(FuncType(Types Results)))"}, {"[]func() a{}", "Composite(Slice(FuncType(Types Results(a))))"}, {"[](a){}", "Composite(Slice(Paren(a)))"},
		{"func() {}", "FuncLit(Params Results Block)"}, {"func(a b) {}", "FuncLit(Params(Param(a b)) Results Block)"}, {"func(a b,) c {}", "FuncLit(Params(Param(a b)) Results(c) Block)"}, {"func(a b, c ...d) (e, f) {}()", "Call(FuncLit(Params(Param(a b) Param...(c d)) Results(e f) Block))"}, {"func(a ...b,) {}", "FuncLit(Params(Param...(a b)) Results Block)"}, {"func() a {}", "FuncLit(Params Results(a) Block)"}, {"func() func() {}", "FuncLit(Params Results(FuncType(Types Results)) Block)"}, {"func() struct{} {}", "FuncLit(Params Results(Struct) Block)"}, {"func() { a() }.b", "Selector(FuncLit(Params Results Block(ExprStmt(Call(a)))) b)"},
		{"-a", "Unary-(a)"}, {"!a", "Unary!(a)"}, {"&a", "Unary&(a)"}, {"*a", "Unary*(a)"}, {"<-a", "Unary<-(a)"}, {"!-*&<-a", "Unary!(Unary-(Unary*(Unary&(Unary<-(a)))))"}, {"-a.b(c)", "Unary-(Call(Selector(a b) c))"}, {"&T{}", "Unary&(Composite(T))"}, {"*p.T{}", "Unary*(Composite(Selector(p T)))"}, {"- -a", "Unary-(Unary-(a))"}, {"<-<-a", "Unary<-(Unary<-(a))"}, {"(*T)(p)", "Call(Paren(Unary*(T)) p)"},
		{"a.b[int](x, y...)", "Call...(Index(Selector(a b) int) x y)"}, {"-a * b == c || d", "Binary||(Binary==(Binary*(Unary-(a) b) c) d)"},
	})
}

func TestBinarySigns(t *testing.T) {
	for rank, l := range signs {
		for _, x := range l {
			see(t, "P5.1: Value", parse.Value, [][2]string{
				{"a " + x + " b", "Binary" + x + "(a b)"}, {"a " + x + " -b " + x + " c", "Binary" + x + "(Binary" + x + "(a Unary-(b)) c)"}, {"a " + x + " (b " + x + " c)", "Binary" + x + "(a Paren(Binary" + x + "(b c)))"},
			})
			for other, m := range signs {
				for _, y := range m {
					want := "Binary" + y + "(Binary" + x + "(a b) c)"
					if other > rank {
						want = "Binary" + x + "(a Binary" + y + "(b c))"
					}
					see(t, "P5.1: Value", parse.Value, [][2]string{{"a " + x + " b " + y + " c", want}})
				}
			}
		}
	}
	see(t, "P5.1: Value", parse.Value, [][2]string{
		{"a || b && c == d + e * f", "Binary||(a Binary&&(b Binary==(c Binary+(d Binary*(e f)))))"}, {"a * b + c == d && e || f", "Binary||(Binary&&(Binary==(Binary+(Binary*(a b) c) d) e) f)"}, {"a < b < c", "Binary<(Binary<(a b) c)"}, {"a - b + c", "Binary+(Binary-(a b) c)"}, {"a * -b.c", "Binary*(a Unary-(Selector(b c)))"}, {"*a * *b", "Binary*(Unary*(a) Unary*(b))"}, {"a - <-b", "Binary-(a Unary<-(b))"}, {"a < -b", "Binary<(a Unary-(b))"},
	})
}

func TestFileForms(t *testing.T) {
	see(t, "P5.1: File", parse.File, [][2]string{
		{"package a", "File(a)"}, {"package a;", "File(a)"}, {"// x\n\npackage a // y\n", "File(a)"}, {"package a; import \"b\"", "File(a Importb)"}, {"package a\nimport \"b/c\"\nimport \"\\n\"\n", "File(a Importb/c Import\n)"}, {"package a; import \"b\"; var x int; func f() {}", "File(a Importb Var(x int -) Func(- f - Params Results Block))"},
		{"package a\nvar x = f(1)", "File(a Var(x - Call(f 1)))"}, {"package a; var x int", "File(a Var(x int -))"}, {"package a; var x []int = y", "File(a Var(x Slice(int) y))"}, {"package a; var x (int) = 1", "File(a Var(x Paren(int) 1))"}, {"package a; var x func() = y", "File(a Var(x FuncType(Types Results) y))"}, {"package a; var x = T{}", "File(a Var(x - Composite(T)))"},
		{"package a; const c = 1", "File(a Const(c - 1))"}, {"package a; const c a.b = \"s\"", "File(a Const(c Selector(a b) \"s\"))"}, {"package a; type T int", "File(a Type(T int))"}, {"package a; type T struct { a b }; type U T", "File(a Type(T Struct(Field(a b))) Type(U T))"}, {"package a; type F func() (int)", "File(a Type(F FuncType(Types Results(int))))"},
		{"package a; func f() {}", "File(a Func(- f - Params Results Block))"}, {"package a; func f(a b, c ...d) e { return }", "File(a Func(- f - Params(Param(a b) Param...(c d)) Results(e) Block(Return)))"}, {"package a; func f(a b,) (c, d,) {}", "File(a Func(- f - Params(Param(a b)) Results(c d) Block))"}, {"package a; func f() func() (a) {}", "File(a Func(- f - Params Results(FuncType(Types Results(a))) Block))"}, {"package a; func f() interface{} {}", "File(a Func(- f - Params Results(Interface) Block))"},
		{"package a; func f[A b]() {}", "File(a Func(- f TParams(TParam(A b)) Params Results Block))"}, {"package a; func f[A b,]() {}", "File(a Func(- f TParams(TParam(A b)) Params Results Block))"}, {"package a; func f[A b|c.d|*e, B []f](x A) B {}", "File(a Func(- f TParams(TParam(A Union(b Selector(c d) Pointer(e))) TParam(B Slice(f))) Params(Param(x A)) Results(B) Block))"}, {"package a; func f[A func() b|c, B any,]() {}", "File(a Func(- f TParams(TParam(A Union(FuncType(Types Results(b)) c)) TParam(B any)) Params Results Block))"},
		{"package a; func (t T) M() {}", "File(a Func(Recv(t T) M - Params Results Block))"}, {"package a; func (t *T) M(a b) (c) {}", "File(a Func(Recv(t Pointer(T)) M - Params(Param(a b)) Results(c) Block))"},
		{"package a; func f() { if x {} }", "File(a Func(- f - Params Results Block(If(- x Block -))))"},
		{"package a; func f() { g() }; func h() {\n}\nvar x int", "File(a Func(- f - Params Results Block(ExprStmt(Call(g)))) Func(- h - Params Results Block) Var(x int -))"},
	})
}

// body reads the statements of a function.
func body(src string) (api.Node, api.Fault) {
	n, f := parse.File(ahead + src + "\n}")
	if f.Code == 0 {
		n = n.Kids[1].Kids[5]
	}
	f.At -= len(ahead)
	if f.Code == 0 {
		f.At = 0
	}
	return n, f
}

const ahead = "package a; func f() {"

func TestStatementForms(t *testing.T) {
	see(t, "P5.1: the statements", body, [][2]string{
		{"", "Block"}, {";", "Block"}, {";;\n;", "Block"}, {"a()", "Block(ExprStmt(Call(a)))"}, {"a();", "Block(ExprStmt(Call(a)))"}, {";a();;b()\n\nc();;", "Block(ExprStmt(Call(a)) ExprStmt(Call(b)) ExprStmt(Call(c)))"},
		{"var x int; var y = 1; var z int = 2", "Block(Var(x int -) Var(y - 1) Var(z int 2))"}, {"const c = 1; const d int = 2", "Block(Const(c - 1) Const(d int 2))"}, {"{}; { a() }; {{}}", "Block(Block Block(ExprStmt(Call(a))) Block(Block))"},
		{"a", "Block(ExprStmt(a))"}, {"1; \"s\"; -a; <-c; a + b", "Block(ExprStmt(1) ExprStmt(\"s\") ExprStmt(Unary-(a)) ExprStmt(Unary<-(c)) ExprStmt(Binary+(a b)))"}, {"T{}; p.T{1}", "Block(ExprStmt(Composite(T)) ExprStmt(Composite(Selector(p T) 1)))"}, {"func() {}; func() {}()", "Block(ExprStmt(FuncLit(Params Results Block)) ExprStmt(Call(FuncLit(Params Results Block))))"}, {"[]a{}.b()", "Block(ExprStmt(Call(Selector(Composite(Slice(a)) b))))"}, {"*p = 1", "Block(Assign=(Exprs(Unary*(p)) Exprs(1)))"},
		{"c <- 1", "Block(Send(c 1))"}, {"c <- <-d", "Block(Send(c Unary<-(d)))"}, {"<-c <- a + b", "Block(Send(Unary<-(c) Binary+(a b)))"}, {"a + b <- c", "Block(Send(Binary+(a b) c))"}, {"c<-1", "Block(Send(c 1))"},
		{"a = b", "Block(Assign=(Exprs(a) Exprs(b)))"}, {"a, b.c, d[0] = 1, e", "Block(Assign=(Exprs(a Selector(b c) Index(d 0)) Exprs(1 e)))"}, {"a, b = f()", "Block(Assign=(Exprs(a b) Exprs(Call(f))))"}, {"a += 1; b -= 2; c *= 3; d /= 4; e %= 5", "Block(Assign+=(Exprs(a) Exprs(1)) Assign-=(Exprs(b) Exprs(2)) Assign*=(Exprs(c) Exprs(3)) Assign/=(Exprs(d) Exprs(4)) Assign%=(Exprs(e) Exprs(5)))"}, {"a.b[0] += c + d", "Block(Assign+=(Exprs(Index(Selector(a b) 0)) Exprs(Binary+(c d))))"}, {"(a) = b", "Block(Assign=(Exprs(Paren(a)) Exprs(b)))"},
		{"a++; b.c--; 1++", "Block(IncDec++(a) IncDec--(Selector(b c)) IncDec++(1))"}, {"a := 1", "Block(Define(Exprs(a) Exprs(1)))"}, {"a, b, c := 1, T{}, f()", "Block(Define(Exprs(a b c) Exprs(1 Composite(T) Call(f))))"}, {"_, a := b", "Block(Define(Exprs(_ a) Exprs(b)))"},
		{"go f()", "Block(Go(Call(f)))"}, {"go a.b[c](d...)", "Block(Go(Call...(Index(Selector(a b) c) d)))"}, {"go (f)()", "Block(Go(Call(Paren(f))))"}, {"go func() {}()", "Block(Go(Call(FuncLit(Params Results Block))))"}, {"go f()()", "Block(Go(Call(Call(f))))"}, {"go T{}.m()", "Block(Go(Call(Selector(Composite(T) m))))"}, {"defer f(1)", "Block(Defer(Call(f 1)))"}, {"defer a.(b)(c)", "Block(Defer(Call(Assert(a b) c)))"}, {"defer []a{}()", "Block(Defer(Call(Composite(Slice(a)))))"},
		{"return", "Block(Return)"}, {"return a", "Block(Return(a))"}, {"return a, b + c", "Block(Return(a Binary+(b c)))"}, {"return;", "Block(Return)"}, {"return T{}", "Block(Return(Composite(T)))"}, {"break", "Block(Break)"}, {"continue", "Block(Continue)"}, {"break;continue;return", "Block(Break Continue Return)"},
		{"{ return }; { break }", "Block(Block(Return) Block(Break))"},
	})
}

func TestHeads(t *testing.T) {
	see(t, "P5.1: the statements", body, [][2]string{
		{"if a {}", "Block(If(- a Block -))"}, {"if a {} else {}", "Block(If(- a Block Block))"}, {"if a {} else if b {}", "Block(If(- a Block If(- b Block -)))"}, {"if a {} else if b {} else if c {} else { d() }", "Block(If(- a Block If(- b Block If(- c Block Block(ExprStmt(Call(d)))))))"},
		{"if a := b; c {}", "Block(If(Define(Exprs(a) Exprs(b)) c Block -))"}, {"if a(); b {}", "Block(If(ExprStmt(Call(a)) b Block -))"}, {"if a, b = c, d; e {} else {}", "Block(If(Assign=(Exprs(a b) Exprs(c d)) e Block Block))"}, {"if a <- b; c {}", "Block(If(Send(a b) c Block -))"}, {"if a++; b {}", "Block(If(IncDec++(a) b Block -))"}, {"if a += 1; b {}", "Block(If(Assign+=(Exprs(a) Exprs(1)) b Block -))"}, {"if a\nb {}", "Block(If(ExprStmt(a) b Block -))"}, {"if a {} else if b := c; d {}", "Block(If(- a Block If(Define(Exprs(b) Exprs(c)) d Block -)))"},
		{"for {}", "Block(For(- - - Block))"}, {"for a {}", "Block(For(- a - Block))"}, {"for ;; {}", "Block(For(- - - Block))"}, {"for a; b; c {}", "Block(For(ExprStmt(a) b ExprStmt(c) Block))"}, {"for a := 0; a < 3; a++ {}", "Block(For(Define(Exprs(a) Exprs(0)) Binary<(a 3) IncDec++(a) Block))"}, {"for a = 1;; {}", "Block(For(Assign=(Exprs(a) Exprs(1)) - - Block))"}, {"for ; a; {}", "Block(For(- a - Block))"}, {"for ;; a-- {}", "Block(For(- - IncDec--(a) Block))"}, {"for ;; a, b = b, a {}", "Block(For(- - Assign=(Exprs(a b) Exprs(b a)) Block))"}, {"for a, b := c, d; ; e <- f {}", "Block(For(Define(Exprs(a b) Exprs(c d)) - Send(e f) Block))"}, {"for ;; a := b {}", "Block(For(- - Define(Exprs(a) Exprs(b)) Block))"}, {"for a <- b; c; {}", "Block(For(Send(a b) c - Block))"},
		{"for range a {}", "Block(Range(- - a Block))"}, {"for a := range b {}", "Block(Range(a - b Block))"}, {"for a, b := range c {}", "Block(Range(a b c Block))"}, {"for _, a := range b.c() {}", "Block(Range(_ a Call(Selector(b c)) Block))"}, {"for range 3 { break }", "Block(Range(- - 3 Block(Break)))"},
		{"switch a {}", "Block(Switch(a))"}, {"switch a.b {}", "Block(Switch(Selector(a b)))"},
		// A `{` behind a name, in a head and within brackets there.
		{"if a.b {}", "Block(If(- Selector(a b) Block -))"}, {"if a == b {}", "Block(If(- Binary==(a b) Block -))"}, {"if -a.b {}", "Block(If(- Unary-(Selector(a b)) Block -))"}, {"if x := a; y == b {}", "Block(If(Define(Exprs(x) Exprs(a)) Binary==(y b) Block -))"}, {"for x := a; y == b; z = c {}", "Block(For(Define(Exprs(x) Exprs(a)) Binary==(y b) Assign=(Exprs(z) Exprs(c)) Block))"}, {"for ;; a.b {}", "Block(For(- - ExprStmt(Selector(a b)) Block))"}, {"for range a.b {}", "Block(Range(- - Selector(a b) Block))"}, {"for x := range a {}", "Block(Range(x - a Block))"}, {"switch a == b.c {}", "Block(Switch(Binary==(a Selector(b c))))"},
		{"if (T{}) == x {}", "Block(If(- Binary==(Paren(Composite(T)) x) Block -))"}, {"if (p.T{a: 1}).b {}", "Block(If(- Selector(Paren(Composite(Selector(p T) Keyed(a 1))) b) Block -))"}, {"if f(T{1}) {}", "Block(If(- Call(f Composite(T 1)) Block -))"}, {"if a[T{}.b] {}", "Block(If(- Index(a Selector(Composite(T) b)) Block -))"}, {"if x := f(T{}); x {}", "Block(If(Define(Exprs(x) Exprs(Call(f Composite(T)))) x Block -))"}, {"for x := (T{}); a[p.T{}]; f(T{}) {}", "Block(For(Define(Exprs(x) Exprs(Paren(Composite(T)))) Index(a Composite(Selector(p T))) ExprStmt(Call(f Composite(T))) Block))"}, {"for range f(T{}) {}", "Block(Range(- - Call(f Composite(T)) Block))"}, {"switch (T{}) {}", "Block(Switch(Paren(Composite(T))))"}, {"if ((T{})) {}", "Block(If(- Paren(Paren(Composite(T))) Block -))"}, {"if f(a)[b] == c {}", "Block(If(- Binary==(Index(Call(f a) b) c) Block -))"},
		{"if []T{T{}, p.U{}} == a {}", "Block(If(- Binary==(Composite(Slice(T) Composite(T) Composite(Selector(p U))) a) Block -))"}, {"if []T{} {}", "Block(If(- Composite(Slice(T)) Block -))"}, {"for range []p.T{} {}", "Block(Range(- - Composite(Slice(Selector(p T))) Block))"}, {"switch []T{}[0] {}", "Block(Switch(Index(Composite(Slice(T)) 0)))"}, {"if []T{a: b} == c {}", "Block(If(- Binary==(Composite(Slice(T) Keyed(a b)) c) Block -))"}, {"if []func() T{} {}", "Block(If(- Composite(Slice(FuncType(Types Results(T)))) Block -))"},
		{"if func() T { return T{} }() {}", "Block(If(- Call(FuncLit(Params Results(T) Block(Return(Composite(T))))) Block -))"}, {"if func() { if a {}; T{} }; b {}", "Block(If(ExprStmt(FuncLit(Params Results Block(If(- a Block -) ExprStmt(Composite(T))))) b Block -))"}, {"switch func() { switch a { case T{}: U{} } }() {}", "Block(Switch(Call(FuncLit(Params Results Block(Switch(a Case(Exprs(Composite(T)) ExprStmt(Composite(U)))))))))"}, {"for a := func() {}; b {}", "fault 4 at 22"}, {"if a.(T) {}", "Block(If(- Assert(a T) Block -))"}, {"if f(a) {}; T{}", "Block(If(- Call(f a) Block -) ExprStmt(Composite(T)))"},
		{"if a { T{} } else { T{} }; T{}", "Block(If(- a Block(ExprStmt(Composite(T))) Block(ExprStmt(Composite(T)))) ExprStmt(Composite(T)))"}, {"for a { T{} }; T{}", "Block(For(- a - Block(ExprStmt(Composite(T)))) ExprStmt(Composite(T)))"}, {"for range a { T{} }; T{}", "Block(Range(- - a Block(ExprStmt(Composite(T)))) ExprStmt(Composite(T)))"}, {"switch a { case T{}: T{} }; T{}", "Block(Switch(a Case(Exprs(Composite(T)) ExprStmt(Composite(T)))) ExprStmt(Composite(T)))"},
		{"if f(a == b, T{}, c) {}", "Block(If(- Call(f Binary==(a b) Composite(T) c) Block -))"}, {"if (a) == b {}", "Block(If(- Binary==(Paren(a) b) Block -))"}, {"if f(func() { if a {} }, T{}) {}", "Block(If(- Call(f FuncLit(Params Results Block(If(- a Block -))) Composite(T)) Block -))"},
		{"if T{} == x {}", "fault 4 at 7"}, {"if x == T{} {}", "fault 4 at 12"}, {"if p.T{1} {}", "fault 4 at 10"}, {"if x := T{}; x {}", "fault 4 at 9"}, {"if x := T{1}; x {}", "fault 4 at 9"}, {"for x := T{}; ; {}", "fault 4 at 10"}, {"for ; T{}; {}", "fault 4 at 7"}, {"for ;; T{} {}", "fault 4 at 11"}, {"for range T{} {}", "fault 4 at 14"}, {"switch T{} {}", "fault 4 at 11"}, {"switch x == p.T{} {}", "fault 4 at 18"}, {"if f(a) == T{1} {}", "fault 4 at 16"}, {"if []T{} == T{} {}", "fault 4 at 16"}, {"if func() {}() == T{} {}", "fault 4 at 22"}, {"if a.(T){} {}", "fault 4 at 11"},
	})
}

func TestCases(t *testing.T) {
	see(t, "P5.1: the statements", body, [][2]string{
		{"switch a { case 1: }", "Block(Switch(a Case(Exprs(1))))"}, {"switch a { case 1, b.c, d(): }", "Block(Switch(a Case(Exprs(1 Selector(b c) Call(d)))))"}, {"switch a { default: }", "Block(Switch(a Case(-)))"}, {"switch a { case 1: default: case 2: }", "Block(Switch(a Case(Exprs(1)) Case(-) Case(Exprs(2))))"}, {"switch a { default: default: }", "Block(Switch(a Case(-) Case(-)))"}, {"switch a {\ncase 1:\n\tb()\n\tc()\ndefault:\n\td()\n}", "Block(Switch(a Case(Exprs(1) ExprStmt(Call(b)) ExprStmt(Call(c))) Case(- ExprStmt(Call(d)))))"},
		{"switch a { case 1: b() case 2: c(); default: d() case 3: return case 4: break default: ; case 5: ;; case 6: return default: continue }", "Block(Switch(a Case(Exprs(1) ExprStmt(Call(b))) Case(Exprs(2) ExprStmt(Call(c))) Case(- ExprStmt(Call(d))) Case(Exprs(3) Return) Case(Exprs(4) Break) Case(-) Case(Exprs(5)) Case(Exprs(6) Return) Case(- Continue)))"}, {"switch a { case 1: if b {} case 2: { return } default: return x }", "Block(Switch(a Case(Exprs(1) If(- b Block -)) Case(Exprs(2) Block(Return)) Case(- Return(x))))"}, {"switch a { case 1: switch b { case 2: } case 3: }", "Block(Switch(a Case(Exprs(1) Switch(b Case(Exprs(2)))) Case(Exprs(3))))"}, {"switch a { case T{a: 1}: x := 1; y() }", "Block(Switch(a Case(Exprs(Composite(T Keyed(a 1))) Define(Exprs(x) Exprs(1)) ExprStmt(Call(y)))))"},
		{"select {}", "Block(Select)"}, {"select { default: }", "Block(Select(Comm(-)))"}, {"select { case c <- 1: }", "Block(Select(Comm(Send(c 1))))"}, {"select { case <-c: }", "Block(Select(Comm(Receive(- - c))))"}, {"select { case a := <-c: }", "Block(Select(Comm(Receive(a - c))))"}, {"select { case a, b := <-c: }", "Block(Select(Comm(Receive(a b c))))"}, {"select { case a.b[0] <- f(): default: case <-f(x): }", "Block(Select(Comm(Send(Index(Selector(a b) 0) Call(f))) Comm(-) Comm(Receive(- - Call(f x)))))"},
		{"select { case <-c <- 1: }", "Block(Select(Comm(Send(Unary<-(c) 1))))"}, {"select { case <-<-c: }", "Block(Select(Comm(Receive(- - Unary<-(c)))))"}, {"select { case a := <-<-c: }", "Block(Select(Comm(Receive(a - Unary<-(c)))))"}, {"select { case a := <-(b + c): }", "Block(Select(Comm(Receive(a - Paren(Binary+(b c))))))"}, {"select { case (<-c) <- 1: }", "Block(Select(Comm(Send(Paren(Unary<-(c)) 1))))"}, {"select { case a + b <- c + d: }", "Block(Select(Comm(Send(Binary+(a b) Binary+(c d)))))"}, {"select { case <-c + 1 <- 2: }", "Block(Select(Comm(Send(Binary+(Unary<-(c) 1) 2))))"}, {"select { case -c <- 1: }", "Block(Select(Comm(Send(Unary-(c) 1))))"}, {"select { case T{} <- 1: }", "Block(Select(Comm(Send(Composite(T) 1))))"}, {"select { case a <- <-b: }", "Block(Select(Comm(Send(a Unary<-(b)))))"}, {"select { case <-T{}: }", "Block(Select(Comm(Receive(- - Composite(T)))))"},
		{"select { case c <- 1: a(); b() case <-d: e(); default: f() }", "Block(Select(Comm(Send(c 1) ExprStmt(Call(a)) ExprStmt(Call(b))) Comm(Receive(- - d) ExprStmt(Call(e))) Comm(- ExprStmt(Call(f)))))"}, {"select {\ncase <-a:\n\treturn\ncase b <- c:\n}", "Block(Select(Comm(Receive(- - a) Return) Comm(Send(b c))))"},
		// What is neither.
		{"select { case f(): }", "fault 4 at 17"}, {"select { case a: }", "fault 4 at 15"}, {"select { case (<-c): }", "fault 4 at 19"}, {"select { case -<-c: }", "fault 4 at 18"}, {"select { case <-c + 1: }", "fault 4 at 21"}, {"select { case a := c: }", "fault 4 at 19"}, {"select { case a := (<-c): }", "fault 4 at 19"}, {"select { case a := -<-c: }", "fault 4 at 19"}, {"select { case a := <-c + 1: }", "fault 4 at 23"}, {"select { case a := <-c <- 1: }", "fault 4 at 23"}, {"select { case a = <-c: }", "fault 4 at 16"}, {"select { case a, b = <-c: }", "fault 4 at 19"}, {"select { case a, b, c := <-d: }", "fault 4 at 18"}, {"select { case a.b := <-c: }", "fault 4 at 18"}, {"select { case a, b.c := <-d: }", "fault 4 at 18"}, {"select { case a.b, c := <-d: }", "fault 4 at 17"}, {"select { case f(), a := <-c: }", "fault 4 at 17"}, {"select { case a, 1 := <-c: }", "fault 4 at 17"}, {"select { case a += 1: }", "fault 4 at 16"}, {"select { case a++: }", "fault 4 at 15"}, {"select { case <-c, a <- 1: }", "fault 4 at 17"}, {"select { case c <- 1, 2: }", "fault 4 at 20"}, {"select { case c <- 1 <- 2: }", "fault 4 at 21"}, {"select { case : }", "fault 4 at 14"}, {"select { case <-: }", "fault 4 at 16"}, {"select { case }", "fault 4 at 14"}, {"select { default }", "fault 4 at 17"}, {"select { default a <- b: }", "fault 4 at 17"}, {"select { a <- b: }", "fault 4 at 9"}, {"select { ; }", "fault 4 at 9"}, {"select a {}", "fault 4 at 7"}, {"select ; {}", "fault 4 at 7"},
	})
}

func TestKeyedSendReceive(t *testing.T) {
	see(t, "P5.2: Value", parse.Value, [][2]string{
		{"T{a : b}", "Composite(T Keyed(a b))"}, {"T{a: <-b}", "Composite(T Keyed(a Unary<-(b)))"}, {"T{a\n:b}", "fault 4 at 3"}, {"T{a:\nb}", "Composite(T Keyed(a b))"}, {"[]T{a: T{b: c}}", "Composite(Slice(T) Keyed(a Composite(T Keyed(b c))))"}, {"T{(a): b}", "fault 4 at 5"}, {"T{a.b: c}", "fault 4 at 5"}, {"T{1: c}", "fault 4 at 3"}, {`T{"a": c}`, "fault 4 at 5"}, {"T{a: b: c}", "fault 4 at 6"}, {"T{a: }", "fault 4 at 5"}, {"T{: a}", "fault 4 at 2"}, {"T{-a: b}", "fault 4 at 4"}, {"f(a: b)", "fault 4 at 3"}, {"a[b: c]", "fault 4 at 3"}, {"(a: b)", "fault 4 at 2"},
		{"<-a", "Unary<-(a)"}, {"a - <-b", "Binary-(a Unary<-(b))"}, {"a <- b", "fault 4 at 2"}, {"f(<-a, -<-b)", "Call(f Unary<-(a) Unary-(Unary<-(b)))"}, {"f(a <- b)", "fault 4 at 4"}, {"a == <-b", "Binary==(a Unary<-(b))"}, {"<-a <- b", "fault 4 at 4"}, {"[]T{<-a}", "Composite(Slice(T) Unary<-(a))"}, {"a[<-b]", "Index(a Unary<-(b))"}, {"(<-a)", "Paren(Unary<-(a))"}, {"a +<-b", "Binary+(a Unary<-(b))"},
	})
	see(t, "P5.2: the statements", body, [][2]string{
		{"x <- y", "Block(Send(x y))"}, {"x<-y", "Block(Send(x y))"}, {"x < -y", "Block(ExprStmt(Binary<(x Unary-(y))))"}, {"<-x", "Block(ExprStmt(Unary<-(x)))"}, {"x = <-y", "Block(Assign=(Exprs(x) Exprs(Unary<-(y))))"}, {"x := <-y", "Block(Define(Exprs(x) Exprs(Unary<-(y))))"}, {"x, y = <-a, <-b", "Block(Assign=(Exprs(x y) Exprs(Unary<-(a) Unary<-(b))))"}, {"x <- y <- z", "fault 4 at 7"}, {"x, y <- z", "fault 4 at 5"}, {"x = y <- z", "fault 4 at 6"}, {"return <-x", "Block(Return(Unary<-(x)))"}, {"return x <- y", "fault 4 at 9"}, {"go <-x", "fault 4 at 3"}, {"for x <- y {}", "fault 4 at 11"}, {"for <-x {}", "Block(For(- Unary<-(x) - Block))"}, {"switch x { case a: b <- c }", "Block(Switch(x Case(Exprs(a) Send(b c))))"}, {"switch x <- y {}", "fault 4 at 9"}, {"if x <- y {}", "fault 4 at 10"}, {"if <-x {}", "Block(If(- Unary<-(x) Block -))"}, {"for range <-x {}", "Block(Range(- - Unary<-(x) Block))"},
	})
}
