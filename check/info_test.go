package check_test

import (
	"fmt"
	"slices"
	"strings"
	"testing"

	"recast/api"
	"recast/scope"
	"recast/types"
)

// expressions wants what is told of the expressions of declarations to be so.
func expressions(t *testing.T, decls, want string) {
	t.Helper()
	if got := typesShown(t, alone(decls), "main/a.gc"); got != want {
		t.Errorf("P13.1: of %s Types are\n%s\nwant\n%s", decls, got, want)
	}
}

func TestTypesOfExpressions(t *testing.T) {
	expressions(t, "var a = 1 + 2", "1 + 2=constant int! 1=constant int! 2=constant int!")
	expressions(t, "var a any = (\"a\")", "(\"a\")=constant string! \"a\"=constant string!")
	expressions(t, "const c = 1; const d int = c; const e M = 2; type M int; var a = d + 1; var b = e * c", "1=constant int! c=constant int! 2=constant int! d + 1=int! d=int! 1=constant int! e * c=main.M! e=main.M! c=constant int!")
	expressions(t, "const c = true && 1 < 2; const d B = c; type B bool; const e = !d; const f = d == c", "true && 1 < 2=constant bool! true=constant bool! 1 < 2=constant bool! 1=constant int! 2=constant int! c=constant bool! !d=main.B! d=main.B! d == c=constant bool! d=main.B! c=constant bool!")
	expressions(t, "var a = 1; var b = a == 1 || a < 2; var c = !(a > 3)", "1=constant int! a == 1 || a < 2=constant bool a == 1=constant bool a=int 1=constant int! a < 2=constant bool a=int 2=constant int! !(a > 3)=constant bool (a > 3)=constant bool a > 3=constant bool a=int 3=constant int!")
	expressions(t, "var a *int = nil; var b = a == nil; var c = nil != a; var d any = nil", "nil=nil a == nil=constant bool a=*int nil=nil nil != a=constant bool nil=nil a=*int nil=nil")
	expressions(t, "type M int; var m = M(1); var a = m + 1; var b = 2 - m; var c = -m; var d = -1; var e = int(m)", "M(1)=main.M! 1=constant int! m + 1=main.M m=main.M 1=constant int! 2 - m=main.M 2=constant int! m=main.M -m=main.M m=main.M -1=constant int! 1=constant int! int(m)=int m=main.M")
	expressions(t, "type B bool; var b = B(true); var c = b && 1 == 2; var d = 1 == 2 && b; var f = b == true", "B(true)=main.B! true=constant bool! b && 1 == 2=main.B b=main.B 1 == 2=constant bool! 1=constant int! 2=constant int! 1 == 2 && b=main.B 1 == 2=constant bool! 1=constant int! 2=constant int! b=main.B b == true=constant bool b=main.B true=constant bool!")
	expressions(t, "type L []int; var l L; var a = []int{1}; var b = append(l, 2); var c = append(a, l...); var d = l[0]; var e = \"abc\"[d]; var f = len(\"a\"); var g = len(l)", "[]int{1}=[]int 1=constant int! append(l, 2)=main.L l=main.L 2=constant int! append(a, l...)=[]int a=[]int l=main.L l[0]=int l=main.L 0=constant int! \"abc\"[d]=int \"abc\"=constant string! d=int len(\"a\")=int! \"a\"=constant string! len(l)=int l=main.L")
	expressions(t, "type U struct { y int }; type T struct { U; x *T }; var t = T{U{1}, nil}; var a = t.y; var b = &T{x: &t}; var c = (*b).x.U; var d = *b.x", "T{U{1}, nil}=main.T U{1}=main.U 1=constant int! nil=nil t.y=int t=main.T &T{x: &t}=*main.T T{x: &t}=main.T &t=*main.T t=main.T (*b).x.U=main.U (*b).x=*main.T (*b)=main.T *b=main.T b=*main.T *b.x=main.T b.x=*main.T b=*main.T")
	expressions(t, "type T int; func (t *T) m(x int) bool { return x > int(*t) }; type I interface { m(int) bool }; var t T; var a = t.m(1); var b I = &t; var c = b.m(2); var d = b.(*T)", "x > int(*t)=constant bool x=int int(*t)=int *t=main.T t=*main.T t.m(1)=bool t.m=func(int) bool t=main.T 1=constant int! &t=*main.T t=main.T b.m(2)=bool b.m=func(int) bool b=main.I 2=constant int! b.(*T)=*main.T b=main.I")
	expressions(t, "func f(x int, y ...string) (int, string) { return x, y[0] }; func g() {}; func h() { f(1, \"a\"); g(); a, b := f(2); print(a, b); var k = f; k(3) }", "x=int y[0]=string y=[]string 0=constant int! f(1, \"a\")=(int, string) f=func(int, ...string) (int, string) 1=constant int! \"a\"=constant string! g()=() g=func() f(2)=(int, string) f=func(int, ...string) (int, string) 2=constant int! print(a, b)=() a=int b=string f=func(int, ...string) (int, string) k(3)=(int, string) k=func(int, ...string) (int, string) 3=constant int!")
	expressions(t, "func f() (int, string) { return (f()) }; func g() { (f()); a, b := (f()); print(a, b) }", "f()=(int, string) f=func() (int, string) f()=(int, string) f=func() (int, string) f()=(int, string) f=func() (int, string) print(a, b)=() a=int b=string")
	expressions(t, "func id[T any](x T) []T { return []T{x} }; var a = id(1); var b = id[string](\"a\"); var c = id(a)[0]", "[]T{x}=[]T x=T id(1)=[]int 1=constant int! id[string](\"a\")=[]string \"a\"=constant string! id(a)[0]=[]int id(a)=[][]int a=[]int 0=constant int!")
	expressions(t, "func f[T int|string, U any](x T, y U) bool { var z = x + x; f[T, U](z, y); f(z, 1); return x < z }", "x + x=T x=T x=T f[T, U](z, y)=bool z=T y=U f(z, 1)=bool z=T 1=constant int! x < z=constant bool x=T z=T")
	expressions(t, "var a = func(x int) func() string { return func() string { return \"a\" } }; var b = a(1)(); var c = func() {}", "func(x int) func() string { return func() string { return \"a\" } }=func(int) func() string func() string { return \"a\" }=func() string \"a\"=constant string! a(1)()=string a(1)=func() string a=func(int) func() string 1=constant int! func() {}=func()")
	expressions(t, "type T struct {}; var a = (*T)(nil); var b = (T)(*a); var c = any(b); var d = new(*T); var e = make([]T, 1); var f = make(chan int); var g = []chan T{nil}", "(*T)(nil)=*main.T nil=nil (T)(*a)=main.T *a=main.T a=*main.T any(b)=any b=main.T new(*T)=**main.T make([]T, 1)=[]main.T 1=constant int! make(chan int)=chan int []chan T{nil}=[]chan main.T nil=nil")
}

func TestTypesOfStatements(t *testing.T) {
	prints := func(stmts, want string) {
		t.Helper()
		expressions(t, "func f(c chan int, e any, i int, s []string, p *int) { "+stmts+" }", want)
	}
	prints("i = 1; _ = i; *p += 2; s[0], i = \"a\", 3; i++; (*p)--", "i=int 1=constant int! i=int *p=int p=*int 2=constant int! s[0]=string s=[]string 0=constant int! i=int \"a\"=constant string! 3=constant int! i=int (*p)=int *p=int p=*int")
	prints("i, ok := <-c; j, ok := e.(int); _, _ = j, ok", "i=int <-c=int c=chan int ok=bool e.(int)=int e=any j=int ok=bool")
	prints("c <- 1; <-c; go f(c, e, 1, s, p); defer func() {}()", "c=chan int 1=constant int! <-c=int c=chan int f(c, e, 1, s, p)=() f=func(chan int, any, int, []string, *int) c=chan int e=any 1=constant int! s=[]string p=*int func() {}()=() func() {}=func()")
	prints("for x, y := range s { _ = x; _ = y }; for range 3 {}; for j := 0; j < i; j++ {}", "s=[]string x=int y=string 3=constant int! 0=constant int! j < i=constant bool j=int i=int j=int")
	prints("switch i { case 1, i: print(); default: }; select { case x, ok := <-c: _, _ = x, ok; case c <- i: default: }; if e == nil {}", "i=int 1=constant int! i=int print()=() c=chan int x=int ok=bool c=chan int i=int e == nil=constant bool e=any nil=nil")
	prints("panic(recover()); close(c); read(); print(len(s), 1)", "panic(recover())=() recover()=any close(c)=() c=chan int read()=int print(len(s), 1)=() len(s)=int s=[]string 1=constant int!")
	prints("const x = 1; var y = x; var z any = y; _ = z; return", "1=constant int! x=constant int! y=int z=any")
	// Old variables of a definition stand as the lefts of an assignment do.
	prints("i, x := 1, 2; _ = x", "i=int 1=constant int! 2=constant int! x=int")
	l := files("main/a.gc", "package main; import \"b\"; func main() { b.V = b.C; b.F(b.V); s := b.S{X: b.D}; _ = s; b.G(1); var f = b.F; _ = f; _ = (*b.S)(nil) }", "b/b.gc", "package b; var V int; const C = 1; const D M = 2; type M int; type S struct { X M }; func F(x int) {}; func G[T any](x T) {}")
	want := "b.V=int b.C=constant int! b.F(b.V)=() b.F=func(int) b.V=int b.S{X: b.D}=b.S b.D=b.M! s=b.S b.G(1)=() 1=constant int! b.F=func(int) f=func(int) (*b.S)(nil)=*b.S nil=nil"
	if got := typesShown(t, l, "main/a.gc"); got != want {
		t.Errorf("P13.1: Types are\n%s\nwant\n%s", got, want)
	}
	if got, want := typesShown(t, l, "b/b.gc"), "1=constant int! 2=constant int!"; got != want {
		t.Errorf("P13.1: Types are %s, want %s", got, want)
	}
}

func TestObjects(t *testing.T) {
	l := files("main/b.gc", "package main; import \"c\"; var a = 1; var b c.S; const d = \"a\"; const e M = 2; type M int; type T struct { x *T; M; c.S; f func(int) }; type I interface { m(x2) c.S; J }; type J interface { n() }; type x2 []T; func main() {}",
		"main/c.gc", "package main; func (t *T) m(y x2, w ...string) bool { u := 1; v, _ := I(nil), 2; const k = 3; var r any = u; _, _, _ = v, r, k; for i, j := range w { _, _ = i, j }; return func(o M) bool { return o == 1 }(1) }; func g[A any, B int|string, C I](a A, b ...B) (B, func(C)) { return b[0], nil }; func h(_ int, c chan M) { select { case x, ok := <-c: _, _ = x, ok } }",
		"c/c.gc", "package c; type S struct {}; var V = S{}")
	r := taken(t, "P13.1: objects", l)
	var got []string
	for _, o := range r.Info.Objects {
		got = append(got, o.Name+":"+types.Text(o.Type))
	}
	want := "S:c.S V:c.S c: a:int b:c.S d:constant string e:main.M M:main.M T:main.T x:*main.T M:main.M S:c.S f:func(int) I:main.I m:func(main.x2) c.S J:main.J n:func() x2:main.x2 main:func() " +
		"t:*main.T m:func(main.x2, ...string) bool y:main.x2 w:[]string u:int v:main.I k:constant int r:any i:int j:string o:main.M g:func(A, ...B) (B, func(C)) A:A B:B C:C a:A b:[]B h:func(int, chan main.M) c:chan main.M x:main.M ok:bool"
	if all := strings.Join(got, " "); all != want {
		t.Errorf("P13.1: the objects are\n%s\nwant\n%s", all, want)
	}
	// But for their types objects are as binding tells them.
	m := loaded(t, l)
	packages, _ := m.Config(nil)
	objects, uses, _ := scope.Bind(m, packages)
	for i, o := range r.Info.Objects {
		o.Type = api.Type{}
		if fmt.Sprint(o) != fmt.Sprint(objects[i]) {
			t.Errorf("P13.1: the object number %d is %v, want %v", i, o, objects[i])
		}
	}
	rest := slices.DeleteFunc(r.Info.Uses, func(u api.Use) bool { return !slices.Contains(uses, u) })
	if !slices.Equal(rest, uses) {
		t.Errorf("P13.1: the uses are %v, want %v among them", rest, uses)
	}
	// Type parameters have their constraints in them, also within what a function takes.
	param := func(name string) (api.Type, api.Type) {
		for _, o := range r.Info.Objects {
			if o.Kind == api.ObjTParam && o.Name == name {
				g := r.Info.Objects[slices.IndexFunc(r.Info.Objects, func(o api.Object) bool { return o.Name == "g" })].Type
				return o.Type, map[string]api.Type{"A": g.Kids[0], "B": g.Kids[1].Kids[0], "C": g.Kids[3].Kids[0]}[name]
			}
		}
		return api.Type{}, api.Type{}
	}
	method := types.Make(api.TypeFunc)
	face := api.Type{Kind: api.TypeInterface, Names: []string{"m", "n"}, Kids: []api.Type{{Kind: api.TypeFunc, N: 1, Kids: []api.Type{types.Name("main.x2"), types.Name("c.S")}}, method}}
	for i, row := range []struct {
		name  string
		limit api.Type
	}{{"A", types.Make(api.TypeInterface)}, {"B", types.Make(api.TypeUnion, types.Make(api.TypeInt), types.Make(api.TypeString))}, {"C", face}} {
		want := fmt.Sprint(api.Type{Kind: api.TypeParam, Name: row.name, N: i, Kids: []api.Type{row.limit}})
		if declared, taken := param(row.name); fmt.Sprint(declared) != want || fmt.Sprint(taken) != want {
			t.Errorf("P13.1: the type parameter %s is %v and %v, want %v", row.name, declared, taken, want)
		}
	}
}

func TestNamed(t *testing.T) {
	r := taken(t, "P13.1: Named", files("main/b.gc", "package main; import \"c\"; type T struct { x int; c.S; n *T }; func (t *T) z() {}; func (t T) a(x int, y ...T) c.S { return c.S{} }; type U T; type I interface { z(); c.J; a() }; type M (int); type E interface {}; type K I; func (m M) B() {}; func main() {}", "c/c.gc", "package c; type S struct {}; type J interface { m(S) int; z() }; type F func(...S) (J, any); func (f F) x() {}", "main/a.gc", "package main; func (t *T) b() {}"))
	var got []string
	for _, n := range r.Named {
		var methods []string
		for _, m := range n.Methods {
			methods = append(methods, fmt.Sprintf("%s %v %s", m.Name, m.Ptr, types.Text(m.Sig)))
		}
		got = append(got, fmt.Sprintf("%s = %s {%s}", n.Name, types.Text(n.Under), strings.Join(methods, "; ")))
	}
	want := `c.F = func(...c.S) (c.J, any) {x false func()}
c.J = interface { m(c.S) int; z() } {}
c.S = struct {} {}
main.E = any {}
main.I = interface { a(); m(c.S) int; z() } {}
main.K = main.I {}
main.M = int {B false func()}
main.T = struct { x int; c.S; n *main.T } {a false func(int, ...main.T) c.S; b true func(); z true func()}
main.U = main.T {}`
	if all := strings.Join(got, "\n"); all != want {
		t.Errorf("P13.1: Named is\n%s\nwant\n%s", all, want)
	}
	under := r.Named[slices.IndexFunc(r.Named, func(n api.Named) bool { return n.Name == "main.T" })].Under
	if !slices.Equal(under.Names, []string{"x", "S", "n"}) || !slices.Equal(under.Marks, []bool{false, true, false}) {
		t.Errorf("P13.1: the struct is %v", under)
	}
	if _, err := types.New(r.Named); err != api.OK {
		t.Errorf("P13.1: New of Named is %v", err)
	}
}

// A text with marks says what its identifiers stand for that stand for fields and methods: behind each one of them
// stand a ' and a sign, the same one where they stand for the same object.
func members(t *testing.T, l ...string) {
	t.Helper()
	var plain []api.File
	for i := 0; i+1 < len(l); i += 2 {
		parts := strings.Split(l[i+1], "'")
		for j := range parts[1:] {
			parts[j+1] = parts[j+1][1:]
		}
		plain = append(plain, api.File{Path: l[i], Text: strings.Join(parts, "")})
	}
	r := taken(t, "P13.1: uses", plain)
	for i, f := range plain {
		text := f.Text
		for _, u := range slices.Backward(r.Info.Uses) {
			if u.Path != f.Path || u.Obj < 0 {
				continue
			}
			o := r.Info.Objects[u.Obj]
			if o.Kind != api.ObjField && o.Kind != api.ObjMethod && o.Kind != api.ObjIMethod {
				continue
			}
			at := u.At + len(o.Name)
			text = text[:at] + "'" + signOf(plain, l, o) + text[at:]
		}
		if text != l[2*i+1] {
			t.Errorf("P13.1: identifiers stand for\n%s\nwant\n%s", text, l[2*i+1])
		}
	}
}

// signOf is the sign at the place where an object is declared: ? of one that has none there, as its identifier
// stands for a type.
func signOf(plain []api.File, l []string, o api.Object) string {
	i := slices.IndexFunc(plain, func(f api.File) bool { return f.Path == o.Path })
	behind, left := l[2*i+1], o.At+len(o.Name)
	for at := 0; at < len(behind); at++ {
		if behind[at] == '\'' {
			if left == 0 {
				return behind[at+1 : at+2]
			}
			at++
			continue
		}
		if left == 0 {
			break
		}
		left--
	}
	return "?"
}

func TestUsesOfMembers(t *testing.T) {
	one := func(text string) {
		t.Helper()
		members(t, "main/a.gc", "package main; "+text+"; func main() {}")
	}
	one("type T struct { x'1 int; y'2 string }; var t = T{x'1: 1}; var u = T{y'2: \"a\", x'1: t.x'1}; var v = (&u).y'2")
	one("type U struct { x'1 int }; type T struct { U; x'2 int; y'3 int }; type W struct { T }; var w W; var a = w.x'2 + w.U'?.x'1 + w.T'?.U'?.x'1 + w.y'3")
	// The field that an Embed is has no use by its own Ident, which stands for the type.
	one("type U struct { x'1 int }; type T struct { U; z'2 int }; var t = T{U'?: U{x'1: 1}}; var a = t.U'?.x'1")
	one("type T int; func (t T) m'1() {}; func (t *T) n'2() { t.m'1(); (*t).n'2() }; type U struct { T }; func f(u U, p *U) { u.m'1(); p.n'2(); u.T'?.m'1() }")
	one("type I interface { m'1() }; type T int; func (t T) m'2() {}; func f(i I, t T) { i.m'1(); t.m'2(); i = t; I(t).m'1(); i.(T).m'2() }")
	one("type I interface { m'1(); J }; type J interface { m'2(); n'3(); K }; type K interface { n'4(); k'5() }; func f(i I, j J, k K) { i.m'1(); i.n'3(); i.k'5(); j.m'2(); j.n'3(); k.n'4() }")
	one("type I interface { J; K }; type K interface { n'4(); m'1() }; type J interface { n'3() }; func f(i I) { i.n'3(); i.m'1() }")
	one("type I interface { J; m'1() }; type J interface { m'2() }; type L I; type M L; func f(l L, m M) { l.m'1(); m.m'1(); I(m).m'1(); J(m).m'2() }")
	// What type parameters may be says whose methods they have.
	one("type I interface { m'1(); J }; type J interface { n'2() }; type K interface { m'3(); n'4() }; func f[A I, B K, C L](a A, b B, c C, p *B) { a.m'1(); a.n'2(); b.m'3(); c.n'2(); func() { b.n'4(); p.m'3() }() }; type L I")
	one("func f[A I](a A) { a.m'1() }; func g[B any, A K](a A, b B) { a.m'2(); f(a) }; type I interface { m'1() }; type K interface { m'2() }")
	// Fields and methods of one name in several types.
	one("type A struct { x'1 int }; type B struct { x'2 int }; type C struct { x'3 A; y'4 B }; func f(c C) int { return c.x'3.x'1 + c.y'4.x'2 }; func (a A) y'5() {}; func g(a A) { a.y'5() }")
	one("type T struct { x'1 int }; func f(x int) T { var t T; t.x'1 = x; t.x'1++; t.x'1 += x; p := &t.x'1; *p = 1; return T{x'1: t.x'1} }")
	members(t, "main/a.gc", "package main; import \"b\"; type T struct { b.S; x'1 int }; func main() { var t T; t.x'1 = t.X'2; t.S'?.M'3(); t.M'3(); b.V.X'2++; _ = b.S{X'2: t.S'?.X'2}; b.I(t).M'4(); var i b.I = t; i.M'4() }", "b/b.gc", "package b; type S struct { X'2 int; y'5 int }; func (s S) M'3() int { return s.y'5 }; type I interface { M'4() int }; var V S")
}

func TestUsesOfEmbedded(t *testing.T) {
	text := "package main; type U int; type A struct { U }; type B struct { U }; var a A; var b B; var x = b.U; var y = a.U; func main() {}"
	r := taken(t, "P13.1: uses", files("main/a.gc", text))
	for use, declared := range map[string]string{"b.U": "B struct { U", "a.U": "A struct { U"} {
		at, want := strings.Index(text, use)+2, strings.Index(text, declared)+len(declared)-1
		i := slices.IndexFunc(r.Info.Uses, func(u api.Use) bool { return u.At == at })
		if o := r.Info.Objects[r.Info.Uses[i].Obj]; o.Kind != api.ObjField || o.At != want {
			t.Errorf("P13.1: %s stands for %v, want the field at %d", use, o, want)
		}
	}
}

func TestFieldsOfOrigins(t *testing.T) {
	one := func(text string) {
		t.Helper()
		members(t, "main/a.gc", "package main; "+text+"; func main() {}")
	}
	one("type T struct { x'1 int }; type U T; type V (U); type W struct { V }; var v = V{x'1: 1}; var u = U(v).x'1 + T(v).x'1; var w = W{v}.x'1; func f(v *V) { v.x'1 = 1 }")
	one("type U T; func (u U) m'2() int { return u.x'1 }; type T struct { x'1 int; S }; func (t T) n'3() {}; type S struct { y'4 int }; func (s S) m'5() {}; func f(u U, t T) { u.m'2(); t.m'5(); t.n'3(); print(u.y'4, u.S'?.y'4, U{S'?: u.S'?}.x'1) }")
	members(t, "main/a.gc", "package main; import \"b\"; type T b.S; type U struct { T }; func main() { t := T{X'1: 1}; t.X'1++; u := U{T'?: t}; u.X'1 = u.T'?.X'1 + b.S(t).X'1 }", "b/b.gc", "package b; type S R; type R struct { X'1 int }")
}

func TestOrderOfInfo(t *testing.T) {
	r := taken(t, "P13.1: order", great())
	if !slices.IsSortedFunc(r.Info.Objects, func(a, b api.Object) int { return place(a.Path, a.At, b.Path, b.At) }) {
		t.Error("P13.1: the objects are not in order")
	}
	if !slices.IsSortedFunc(r.Info.Uses, func(a, b api.Use) int { return place(a.Path, a.At, b.Path, b.At) }) {
		t.Error("P13.1: the uses are not in order")
	}
	if !slices.IsSortedFunc(r.Info.Types, func(a, b api.Typed) int {
		if d := place(a.Path, a.From, b.Path, b.From); d != 0 {
			return d
		}
		return b.To - a.To
	}) {
		t.Error("P13.1: the expressions are not in order")
	}
	if !slices.IsSortedFunc(r.Named, func(a, b api.Named) int { return strings.Compare(a.Name, b.Name) }) {
		t.Error("P13.1: the declared types are not in order")
	}
}

// place is which of two places stands ahead of the other.
func place(path string, at int, other string, otherAt int) int {
	if d := strings.Compare(path, other); d != 0 {
		return d
	}
	return at - otherAt
}
