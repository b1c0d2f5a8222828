package check_test

import (
	"testing"

	"recast/api"
)

func TestMethods(t *testing.T) {
	differ(t, "methods", beside,
		pair{"func (x int) a() {}", "func (x M) a() {}"}, pair{"func (x any) a() {}", "func (x *M) a() {}"}, pair{"func (x i) a() {}", "func (x T) a() {}"}, pair{"func (x k) a() {}", "func (x L) a() {}"}, pair{"func (x one) a() {}", "func (x F) a() {}"}, pair{"func (x Q) a() {}", "func (x C) a() {}"}, pair{"func (x *Q) a() {}", "func (x *C) a() {}"}, pair{"func (x I) a() {}", "func (x O) a() {}"}, pair{"func (x *I) a() {}", "func (x *O) a() {}"}, pair{"func (x A) a() {}", "func (x N) a() {}"},
		pair{"func (x *int) a() {}", "func (x *N) a() {}"}, pair{"func (x nil) a() {}", "func (x B) a() {}"}, pair{"func (x *comparable) a() {}", "func (x *B) a() {}"}, pair{"type X Q; func (x X) a() {}", "type X T; func (x X) a() {}"}, pair{"type X J; func (x *X) a() {}", "type X C; func (x *X) a() {}"},
		pair{"func (x O) a() {}; func (x O) a() {}", "func (x O) a() {}; func (x O) b() {}"}, pair{"func (x O) a() {}; func (x *O) a() {}", "func (x O) a() {}; func (x *O) A() {}"}, pair{"func (x T) x() {}", "func (x U) x() {}"}, pair{"func (x *T) n() {}", "func (x *U) n() {}"}, pair{"func (x T) U() {}", "func (x T) u() {}"}, pair{"func (x T) m() {}; func (x T) m() {}", "func (x T) m() {}"}, pair{"func (x T) f() {}", "func (x T) p() {}"}, pair{"func (x U) m() {}", "func (x U) n() {}"},
		pair{"type X T; func (y X) x() {}", "type X T; func (y X) p() {}"}, pair{"type X Y; type Y T; func (y X) n() {}", "type X Y; type Y T; func (y X) m() {}"}, pair{"type X T; func (y X) U() {}", "type X U; func (y X) m() {}; func (y X) U() {}"}, pair{"func (x O) a(y i) {}", "func (x O) a(y int) {}"}, pair{"func (x O) a() i {}", "func (x O) a() {}"}, pair{"func (x O) a() { x.p() }", "func (x O) a() { x.a() }"}, pair{"func (x O) a() { x = 1 }", "func (x O) a() { x = O{} }"}, pair{"func (x *O) a() { x = O{} }", "func (x *O) a() { x = nil }"},
		pair{"func (x O) a(y string) { i = y }", "func (x O) a(y string) { s = y }"}, pair{"func (x O) a(y ...string) { s = y }", "func (x O) a(y ...string) { s = y[0] }"}, pair{"func (x O) a() { m() }", "func (x O) a() { one() }"})
	differ(t, "methods of packages", abroad, pair{"_ = b.K(b.W{})", "_ = b.K(b.S{})"}, pair{"_ = b.S.M", "_ = b.S{}.M()"})
	rejected(t, "P13.1: methods", files("main/a.gc", "package main; import \"b\"; func (x S) a() {}; func main() { b.F() }", "b/b.gc", "package b; type S int; func F() {}"))
	taken(t, "P13.1: methods", files("main/a.gc", "package main; func (x S) a() {}; func main() { S(1).a() }", "main/b.gc", "package main; type S int"))
	differ(t, "implementing", alone,
		pair{"type I interface { a(int) }; type X int; func (x X) a(y string) {}; var v I = X(1)", "type I interface { a(int) }; type X int; func (x X) a(y int) {}; var v I = X(1)"}, pair{"type I interface { a() }; type X int; func (x *X) a() {}; var v I = X(1)", "type I interface { a() }; type X int; func (x *X) a() {}; var v I = new(X)"},
		pair{"type I interface { a() }; type X struct { Y }; type Y int; func (y *Y) a() {}; var v I = X{}", "type I interface { a() }; type X struct { Y }; type Y int; func (y *Y) a() {}; var v I = &X{}"}, pair{"type I interface { a() int }; type X int; func (x X) a() {}; var v I = X(1)", "type I interface { a() int }; type X int; func (x X) a() int { return 1 }; var v I = X(1)"},
		pair{"type I interface { a([]int) }; type X int; func (x X) a(y ...int) {}; var v I = X(1)", "type I interface { a([]int) }; type X int; func (x X) a(y []int) {}; var v I = X(1)"})
}

func TestFunctions(t *testing.T) {
	differ(t, "functions", beside,
		pair{"func x(y i) {}", "func x(y int) {}"}, pair{"func x(y ...i) {}", "func x(y ...int) {}"}, pair{"func x() i { return 1 }", "func x() int { return 1 }"}, pair{"func x() (int, nil) { return 1, nil }", "func x() (int, any) { return 1, nil }"}, pair{"func x(y int) { s = y }", "func x(y int) { i = y }"}, pair{"func x(y ...int) { i = y }", "func x(y ...int) { a = y }"}, pair{"func x(y int) { y.z() }", "func x(y I) { y.m() }"}, pair{"func x(_ i) {}", "func x(_ int) {}"}, pair{"var x = func(y i) {}", "var x = func(y int) {}"}, pair{"var x = func() i { return 1 }", "var x = func() int { return 1 }"},
		pair{"var x = func(y int) { s = y }", "var x = func(y int) { i = y }"}, pair{"var x func(int) = func(y string) {}", "var x func(string) = func(y string) {}"}, pair{"var x func(int) = func(y ...int) {}", "var x func(...int) = func(y ...int) {}"}, pair{"var x func([]int) = func(y ...int) {}", "var x func([]int) = func(y []int) {}"}, pair{"var x F = func(y M) M { return y }", "var x F = func(y int) int { return y }"}, pair{"func x() { y := func() { i = s }; y() }", "func x() { y := func() { i = j }; y() }"}, pair{"func x() { func(y string) { i = y }(s) }", "func x() { func(y string) { s = y }(s) }"},
		pair{"func x(y int) { func() { y = s }() }", "func x(y int) { func() { y = i }() }"}, pair{"func x[Y any](y Y) { func() { i = y }() }", "func x[Y any](y Y) { func() { y = y }() }"}, pair{"func x[Y any](y Y) { func(z Y) { s = z }(y) }", "func x[Y any](y Y) { func(z Y) { y = z }(y) }"}, pair{"func x[Y any, Z2 any](y Y, z Z2) { y = z }", "func x[Y any, Z2 any](y Y, z Y) { y = z }"})
	// A fault anywhere is one of the whole module.
	for _, l := range [][]api.File{
		files("main/a.gc", "package main; func main() {}; var x int = \"a\""), files("main/a.gc", "package main; func main() {}", "main/b.gc", "package main; var x int = \"a\""), files("main/a.gc", "package main; func main() {}", "b/b.gc", "package b; var x int = \"a\""),
		files("main/a.gc", "package main; func main() {}; type T int; func (t T) m() { t = \"a\" }"), files("main/a.gc", "package main; func main() {}; func f[T any](x T) { x = 1 }"), files("main/a.gc", "package main; func main() {}; const c int = \"a\""), files("main/a.gc", "package main; func main() {}; type T struct { a nil }"),
		files("main/a.gc", "package main; func main() { x := 1 }"), files("main/a.gc", "package main; func main() { x }"), files("main/a.gc", "package main; func f() {}"), files("main/a.gc", "package main; import \"b\"; func main() {}", "b/b.gc", "package b"), files("main/a.gc", "package main; func main() { break }"),
	} {
		rejected(t, "P13.1: a fault anywhere", l)
	}
}
