package check_test

import (
	"testing"

	"recast/api"
)

func TestExamples(t *testing.T) {
	for _, s := range []string{"var x int = \"a\"; func main() {}", "func main() { print(1 + \"a\") }", "type T struct { x int }; func (t *T) M() {}; func main() { t := T{}; t.M(); T{}.M() }"} {
		rejected(t, "examples", files("main/a.gc", "package main; "+s))
	}
	taken(t, "examples", files("main/a.gc", "package main; func m[T int|string](a T, b T) T { if a < b { return b }; return a }; func main() { print(m(1, 2), m(\"a\", \"b\")) }"))
	taken(t, "examples", files("main/a.gc", "package main; type T struct { x int }; func (t *T) M() {}; func main() { t := T{}; t.M() }"))
	taken(t, "prelude", inMain(""))
	taken(t, "prelude", abroad(""))
}

func TestTypes(t *testing.T) {
	differ(t, "types", beside,
		pair{"var x nil", "var x any"}, pair{"var x true", "var x bool"}, pair{"var x print", "var x string"}, pair{"var x comparable", "var x int"}, pair{"var x i", "var x M"}, pair{"var x one", "var x T"}, pair{"var x k", "var x struct {}"},
		pair{"var x T.x", "var x (T)"}, pair{"var x i.x", "var x (((int)))"}, pair{"var x *i", "var x **int"}, pair{"var x []nil", "var x []T"}, pair{"var x chan k", "var x chan chan int"}, pair{"var x func(i)", "var x func(int)"}, pair{"var x func() i", "var x func() (int, I)"},
		pair{"var x func(...i)", "var x func(...int)"}, pair{"var x (i)", "var x (*(M))"}, pair{"var x []comparable", "var x []any"}, pair{"type X comparable", "type X any"}, pair{"type X i", "type X int"}, pair{"type X X", "type X *X"},
		pair{"var x struct { a int }", "var x struct {}"}, pair{"var x struct { U }", "var x interface {}"}, pair{"var x interface { m() }", "var x []struct {}"}, pair{"var x interface { I }", "var x *interface {}"}, pair{"type X []struct { a int }", "type X []struct {}"},
		pair{"type X *struct { a int }", "type X struct { a int }"}, pair{"type X struct { a struct { b int } }", "type X struct { a struct {} }"}, pair{"type X struct { a interface { m() } }", "type X struct { a interface {} }"}, pair{"type X interface { m(struct { a int }) }", "type X interface { m(struct {}) }"},
		pair{"type X func(struct { a int })", "type X func(interface {})"}, pair{"func x(y struct { a int }) {}", "func x(y struct {}) {}"}, pair{"func x() interface { m() } { return nil }", "func x() interface {} { return nil }"}, pair{"var x = func(y struct { a int }) {}", "var x = func(y struct {}) {}"},
		pair{"var x = []struct { a int }{}", "var x = []struct {}{}"}, pair{"var x = new(struct { a int })", "var x = new(struct {})"}, pair{"var x = make([]interface { m() }, 1)", "var x = make([]interface {}, 1)"}, pair{"var x = e.(struct { a int })", "var x = e.(struct {})"},
		pair{"const x []int = 1", "const x int = 1"}, pair{"func x[Y struct { a int }](y Y) {}", "func x[Y interface {}](y Y) {}"}, pair{"func x[Y interface { m() }](y Y) {}", "func x[Y any](y Y) {}"})
	taken(t, "types", beside("type X (struct { a int }); type Y (interface { m() int }); var x X = X{1}; var y Y = m"))
	// What an Ident stands for counts, not its name.
	differ(t, "names", alone,
		pair{"type int string; var x int = 1", "type int string; var x int = \"a\""}, pair{"type any int; var x any = \"a\"", "type any int; var x any = 1"}, pair{"func f(int string) int { return int }", "func f(int string) string { return int }"},
		pair{"type string struct {}; var x string = \"a\"", "type string struct {}; var x string = string{}"}, pair{"type comparable int; func f[T comparable](x T) {}", "type comparable interface {}; func f[T comparable](x T) {}"}, pair{"type true int; var x = true", "type true int; var x = true(1)"},
		pair{"var nil = 1; var x *int = nil", "var nil = 1; var x int = nil"}, pair{"func print(x int) {}; var x = func() { print(\"a\") }", "func print(x int) {}; var x = func() { print(1) }"}, pair{"func panic(x int) {}; func f() int { panic(1) }", "func f() int { panic(1) }"},
		pair{"func len(x int) int { return x }; var x = len(\"a\")", "func len(x int) string { return \"a\" }; var x string = len(1)"}, pair{"const true = 1; var x bool = true", "const true = 1; var x int = true"}, pair{"func new() {}; var x = new(int)", "func new() int { return 1 }; var x = new()"})
	differ(t, "types of packages", abroad,
		pair{"var x b.V; print(x)", "var x b.S; print(x.X)"}, pair{"var x b.F; print(x)", "var x *b.W; print(x.X)"}, pair{"var x []b.C; _ = x", "var x []b.K; _ = x"}, pair{"_ = s.(b.S)", "_ = any(s).(b.S)"}, pair{"_ = []b.V{}", "_ = []b.S{}"})
}

func TestStructs(t *testing.T) {
	differ(t, "structs", beside,
		pair{"type X struct { a int; a int }", "type X struct { a int; b int }"}, pair{"type X struct { a int; a string }", "type X struct { a int; A int }"}, pair{"type X struct { T; T }", "type X struct { T; U }"}, pair{"type X struct { T; T int }", "type X struct { T; t int }"}, pair{"type X struct { T int; T }", "type X struct { t int; T }"},
		pair{"type X struct { I }", "type X struct { i I }"}, pair{"type X struct { E }", "type X struct { e E }"}, pair{"type X struct { any }", "type X struct { any any }"}, pair{"type X struct { A }", "type X struct { a A }"}, pair{"type X struct { Q }", "type X struct { q Q }"}, pair{"type X struct { int }", "type X struct { int int }"},
		pair{"type X struct { string }", "type X struct { N }"}, pair{"type X struct { i }", "type X struct { M }"}, pair{"type X struct { k }", "type X struct { L }"}, pair{"type X struct { one }", "type X struct { F }"}, pair{"type X struct { comparable }", "type X struct { C }"}, pair{"type X struct { nil }", "type X struct { B }"},
		pair{"type Y Q; type X struct { Y }", "type Y T; type X struct { Y }"}, pair{"type Y I; type X struct { Y }", "type Y M; type X struct { Y }"}, pair{"type X struct { Y }; type Y *X", "type X struct { Y }; type Y []X"}, pair{"type X struct { Y }; type Y interface { m(X) }", "type X struct { Y }; type Y func(X)"},
		pair{"type X struct { a X }", "type X struct { a *X }"}, pair{"type X struct { X }", "type X struct { a []X }"}, pair{"type X struct { Y }; type Y struct { a X }", "type X struct { Y }; type Y struct { a chan X }"}, pair{"type X Y; type Y X", "type X *Y; type Y X"}, pair{"type X Y; type Y struct { a X }", "type X Y; type Y struct { a func() X }"},
		pair{"type X struct { a Y }; type Y W; type W struct { X }", "type X struct { a Y }; type Y W; type W []X"}, pair{"type X struct { a nil }", "type X struct { a int }"})
	differ(t, "structs of packages", func(s string) []api.File {
		return files("main/a.gc", "package main; import \"b\"; "+s+"; func main() {}", "b/b.gc", "package b; type S struct { X int }; type I interface {}; type P *S; type T struct { S }; var V = 1")
	},
		pair{"type X struct { b.I }", "type X struct { b.S }"}, pair{"type X struct { b.P }", "type X struct { b.T }"}, pair{"type X struct { b.S; S int }", "type X struct { b.S; s int }"}, pair{"type S int; type X struct { S; b.S }", "type S int; type X struct { S; b.T }"}, pair{"type X struct { b.V }", "type X struct { a b.S }"},
		pair{"type S b.I; type X struct { S }", "type S b.S; type X struct { S }"})
}

func TestInterfaces(t *testing.T) {
	differ(t, "interfaces", beside,
		pair{"type X interface { m(); m() }", "type X interface { m(); M() }"}, pair{"type X interface { m(); m(int) }", "type X interface { m(); n(int) }"}, pair{"type X interface { X }", "type X interface { m(X) X }"}, pair{"type X interface { Y }; type Y interface { X }", "type X interface { Y }; type Y interface { m() X }"},
		pair{"type X interface { Y }; type Y X", "type X interface { Y }; type Y I"}, pair{"type X interface { Y }; type Y Y", "type X interface { Y }; type Y E"}, pair{"type X interface { Y }; type Y Z1; type Z1 interface { n(); X }", "type X interface { Y }; type Y Z1; type Z1 interface { n(); I }"},
		pair{"type X interface { T }", "type X interface { I }"}, pair{"type X interface { M }", "type X interface { any }"}, pair{"type X interface { int }", "type X interface { E }"}, pair{"type X interface { Q }", "type X interface { A }"}, pair{"type X interface { comparable }", "type X interface { J }"}, pair{"type X interface { i }", "type X interface {}"},
		pair{"type X interface { F }", "type X interface { I; J }"}, pair{"type X interface { m(); I }", "type X interface { m() int; I }"}, pair{"type X interface { I; m(int) int }", "type X interface { I; m() int }"}, pair{"type X interface { I; Y }; type Y interface { m() string }", "type X interface { I; Y }; type Y interface { m() int }"},
		pair{"type X interface { J; Y }; type Y interface { n(); m() }", "type X interface { J; Y }; type Y interface { n(); s(); m() int }"}, pair{"type X interface { m() k }", "type X interface { m() M }"}, pair{"type X interface { m(i) }", "type X interface { m(int) }"},
		pair{"var x I = J(nil).x", "var x I = J(nil)"}, pair{"type X interface { J; n() }; var x X = w", "type X interface { J; s() }; var x X = w"}, pair{"type X interface { I; n() }; var x J = X(nil)", "type X interface { I; s() }; var x J = X(nil)"})
	differ(t, "interfaces of packages", func(s string) []api.File {
		return files("main/a.gc", "package main; import \"b\"; "+s+"; func main() {}", "b/b.gc", "package b; type I interface { M() }; type A any; type S struct {}")
	},
		pair{"type X interface { b.S }", "type X interface { b.I }"}, pair{"type X interface { b.I; M() int }", "type X interface { b.I; M() }"}, pair{"type X interface { b.I }; type T int; var x X = T(1)", "type X interface { b.I }; type T int; func (t T) M() {}; var x X = T(1)"}, pair{"type X interface { b.A }; var x X; var y = x.M", "type X interface { b.A }; var x X = 1"})
}

func TestConstraints(t *testing.T) {
	differ(t, "constraints", beside,
		pair{"func x[Y T](y Y) {}", "func x[Y I](y Y) {}"}, pair{"func x[Y M](y Y) {}", "func x[Y int](y Y) {}"}, pair{"func x[Y []int](y Y) {}", "func x[Y string](y Y) {}"}, pair{"func x[Y *int](y Y) {}", "func x[Y bool](y Y) {}"}, pair{"func x[Y int|int](y Y) {}", "func x[Y int|string](y Y) {}"},
		pair{"func x[Y int|M](y Y) {}", "func x[Y int|bool|string](y Y) {}"}, pair{"func x[Y int|any](y Y) {}", "func x[Y (int)|(string)](y Y) {}"}, pair{"func x[Y int|I](y Y) {}", "func x[Y E](y Y) {}"}, pair{"func x[Y comparable|int](y Y) {}", "func x[Y comparable](y Y) {}"}, pair{"func x[Y nil](y Y) {}", "func x[Y A](y Y) {}"},
		pair{"func x[Y i](y Y) {}", "func x[Y (any)](y Y) {}"}, pair{"func x[Y any, W Y](y Y, w W) {}", "func x[Y any, W any](y Y, w W) {}"}, pair{"func x[Y W, W any](y Y, w W) {}", "func x[Y J, W any](y Y, w W) {}"}, pair{"func x[Y Y](y Y) {}", "func x[Y (comparable)](y Y) {}"})
	for _, s := range []string{"func x[Y int|struct {}](y Y) {}", "func x[Y string|chan int](y Y) {}", "func x[Y func()](y Y) {}", "func x[Y struct {}](y Y) {}", "func x[Y Q](y Y) {}", "func x[Y N|string](y Y) {}", "func x[Y bool|string|bool](y Y) {}"} {
		rejected(t, "P13.1: constraints", beside(s))
	}
	// What holds of a type parameter is what holds of all that it may be.
	within := func(limit string) func(string) []api.File {
		return func(s string) []api.File { return beside("func x[Y " + limit + "](y Y, y2 Y) { " + s + " }") }
	}
	differ(t, "any", within("any"), pair{"_ = y == y2", "_ = any(y) == any(y2)"}, pair{"_ = y + y2", "_ = []Y{y, y2}"}, pair{"print(y)", "_ = any(y)"}, pair{"y = 1", "y = y2"}, pair{"y.m()", "_ = any(y).(I)"}, pair{"_ = y.(int)", "_ = any(y).(Y)"}, pair{"y = nil", "p := &y; *p = y2"}, pair{"_ = y == nil", "_ = any(y) == nil"}, pair{"var v2 I = y; _ = v2", "var v2 any = y; _ = v2"}, pair{"y = Y(i)", "y = Y(y2)"}, pair{"y()", "func() Y { return y }()"}, pair{"switch y { case y2: }", "switch any(y) { case any(y2): }"})
	differ(t, "comparable", within("comparable"), pair{"_ = y < y2", "_ = y == y2"}, pair{"_ = y + y2", "_ = y != y2"}, pair{"_ = y == 1", "_ = any(y) == 1"}, pair{"print(y)", "print(y == y2)"}, pair{"switch y { case 1: }", "switch y { case y2: }"})
	differ(t, "int|string", within("int|string"), pair{"_ = y - y2", "_ = y + y2"}, pair{"_ = y && y2", "_ = y <= y2"}, pair{"_ = y + 1", "_ = y == y2"}, pair{"_ = -y", "print(y)"}, pair{"_ = len(y)", "y += y2"}, pair{"y++", "y = y"}, pair{"_ = int(y)", "_ = Y(y)"}, pair{"_ = Y(1)", "_ = any(y).(int)"})
	differ(t, "int", within("int"), pair{"_ = y + \"a\"", "_ = y + 1"}, pair{"_ = y / 0", "_ = y / 1"}, pair{"_ = y + 9223372036854775808", "_ = y + 9223372036854775807"}, pair{"y = i", "y = 1"}, pair{"_ = -y", "_ = 0 - y"}, pair{"y++", "y += 1"}, pair{"_ = a[y]", "_ = y * y2 % 3"}, pair{"for range y {}", "_ = y > 2"}, pair{"const c Y = 1", "c2 := Y(1); _ = c2"}, pair{"const c2 = Y(1)", "const c2 = int(1)"}, pair{"y = Y(i)", "y = Y(3)"}, pair{"y %= 0", "y %= 2"})
	differ(t, "bool", within("bool"), pair{"_ = !y", "_ = y && y2"}, pair{"if y {}", "if y == true {}"}, pair{"_ = y < y2", "_ = y || 1 == 2"}, pair{"for y {}", "y = 1 == 2"}, pair{"_ = y + y2", "print(y)"})
	differ(t, "I", within("I"), pair{"y.s()", "y.m()"}, pair{"_ = y.m", "(y).m()"}, pair{"_ = y == y2", "_ = v == v"}, pair{"var w2 J = y; _ = w2", "var v2 I = y; _ = v2"}, pair{"_ = y.(I)", "_ = I(y).(J)"}, pair{"call[U](y)", "call(y)"}, pair{"y = v", "v = y"}, pair{"_ = I(y).(T2)", "_ = I(y).(Y)"})
}
