package scope_test

import (
	"testing"

	"recast/api"
)

// pair is something that is wrong, and what is right that is next to it.
type pair struct{ wrong, right string }

// differ wants of each pair the first to be rejected and the second to be taken.
func differ(t *testing.T, what string, around func(string) []api.File, pairs ...pair) {
	t.Helper()
	for _, p := range pairs {
		rejected(t, "P12.4: "+what, around(p.wrong))
		taken(t, "P12.4: "+what, around(p.right))
	}
}

func TestTwice(t *testing.T) {
	differ(t, "twice in a package", withMain,
		pair{"var a = 1; var a = 1", "var a = 1; var b = 1"}, pair{"var a = 1; const a = 1", "const b = 1"}, pair{"type a int; func a() {}", "type a int; func (x a) a() {}"},
		pair{"func a() {}; func a(x int) {}", "func a() {}; func A() {}"}, pair{"var main = 1", "var main1 = 1"}, pair{"type main int", "type T struct { main int }"}, pair{"func main() {}", "func mai() {}"})
	differ(t, "twice in a function", withMain,
		pair{"func f(a int, a int) {}", "func f(a int, b int) {}"}, pair{"func f[T any, T any]() {}", "func f[T any, U any]() {}"}, pair{"func f[T any](T int) {}", "func f[T any](t T) {}"},
		pair{"type T int; func (t T) M(t int) {}", "type T int; func (t T) M(u int) {}"}, pair{"func f(a int) { var a int; print(a) }", "func f(a int) { { var a int; print(a) } }"},
		pair{"func f(a int) { const a = 1 }", "func f(a int) { { const a = 1 } }"}, pair{"func f[T any]() { var T int; print(T) }", "func f[T any]() { { var T int; print(T) } }"},
		pair{"type T int; func (t T) M() { var t int; print(t) }", "type T int; func (t T) M() { { var t int; print(t) } }"},
		pair{"var f = func(a int, a int) {}", "var f = func(a int, b int) {}"}, pair{"var f = func(a int) { var a int; print(a) }", "var f = func(a int) { if true { var a int; print(a) } }"})
	differ(t, "twice in a block", inMain,
		pair{"var a int; var a int; print(a)", "var a int; { var a int; print(a) }; print(a)"}, pair{"const a = 1; const a = 1", "const a = 1; { const a = 1 }; const b = 1"},
		pair{"a := 1; var a int; print(a)", "a := 1; a++; { var a int; print(a) }"}, pair{"var a int; const a = 1; print(a)", "var a int; print(a); { const a = 1 }"},
		pair{"{ var a int; var a int; print(a) }", "{ var a int; print(a) }; { var a int; print(a) }"},
		pair{"for a, a := range 1 { print(a) }", "for a, b := range 1 { print(a, b) }"}, pair{"select { case a, a := <-nil: print(a) }", "select { case a, b := <-nil: print(a, b) }"},
		pair{"select { case a := <-nil: var a int; print(a) }", "select { case a := <-nil: print(a); { var a int; print(a) } }"}, pair{"select { case a := <-nil: a := 1; print(a) }", "select { case a := <-nil: a, b := a, 1; print(b) }"},
		pair{"switch 1 { case 1: var a int; var a int; print(a) }", "switch 1 { case 1: var a int; print(a); case 2: var a int; print(a) }"},
		pair{"if a := 1; true { print(a) }; var b int; var b int; print(b)", "if a := 1; true { var a int; print(a) } else { print(a) }"})
}

func TestDefine(t *testing.T) {
	differ(t, "nothing new", inMain,
		pair{"a := 1; a := 2; print(a)", "a := 1; a, b := 2, 3; print(a, b)"}, pair{"_ := 1", "_ = 1"}, pair{"_, _ := 1, 2", "_, a := 1, 2; print(a)"}, pair{"var a int; a := 1; print(a)", "var a int; { a := a; print(a) }"},
		pair{"a, b := 1, 2; a, _, b := 1, 2, 3; print(a, b)", "a, b := 1, 2; a, _, b, c := 1, 2, 3, 4; print(a, b, c)"},
		pair{"for a := 1; ; a := 2 { print(a) }", "for a := 1; ; a = 2 { print(a) }"}, pair{"const a = 1; a := 1", "const a = 1; { a := a; print(a) }"})
	differ(t, "nothing new in a function", withMain,
		pair{"func f(a int) { a := 1; print(a) }", "func f(a int) { a, b := 1, 2; print(b) }"}, pair{"func f[T any]() { T := 1; print(T) }", "func f[T any]() { if T := 1; true { print(T) } }"},
		pair{"type T int; func (t T) M() { t := 1; print(t) }", "type T int; func (t T) M() { for t := 1; ; { print(t) } }"}, pair{"var f = func(a int) { a := 1; print(a) }", "var f = func(a int) { func() { a := 1; print(a) }() }"})
	differ(t, "one name twice", inMain,
		pair{"a, a := 1, 2; print(a)", "a, b := 1, 2; print(a, b)"}, pair{"a, b, a := 1, 2, 3; print(a, b)", "a, b, _ := 1, 2, 3; print(a, b)"},
		pair{"a := 1; a, a, b := 1, 2, 3; print(a, b)", "a := 1; a, b := 1, 2; print(a, b)"}, pair{"_, a, _, a := 1, 2, 3, 4; print(a)", "_, a, _, b := 1, 2, 3, 4; print(a, b)"})
}

func TestImports(t *testing.T) {
	with := func(head string) []api.File {
		return files("main/a.gc", "package main; "+head+"; func main() {}", "b/b.gc", "package b; var X = 1; var y = 2; type T int; const C = 1; func F() {}; func (t T) M() {}; type S struct { Q int; r int }", "c/c.gc", "package c; var X = 1; var B = 1")
	}
	differ(t, "imports", with,
		pair{"import \"b\"; var x = b", "import \"b\"; var x = b.X"}, pair{"import \"b\"; var x b", "import \"b\"; var x b.T"}, pair{"import \"b\"; var x = (b).X", "import \"b\"; var x = (b.X)"},
		pair{"import \"b\"; var x = b.y", "import \"b\"; var x = b.C"}, pair{"import \"b\"; var x = b.Z", "import \"b\"; var x = b.F"}, pair{"import \"b\"; var x = b.M", "import \"b\"; var x = b.T.M"},
		pair{"import \"b\"; var x = b.Q", "import \"b\"; var x = b.S{Q: 1}"}, pair{"import \"b\"; var x = b.S.x + b.q", "import \"b\"; var x = b.S.x"}, pair{"import \"b\"; var x = b._", "import \"b\"; var x = b.X.x"},
		pair{"import \"b\"; var x = b.X + b.b", "import \"b\"; var x = b.X"}, pair{"import \"b\"; var x = b.B", "import \"c\"; var x = c.B"}, pair{"import \"b\"; var x = b.b.X", "import \"b\"; var x = b.X.b"},
		pair{"import \"b\"; var x = b.int", "import \"b\"; var x = b.X.int"}, pair{"import \"b\"; var x = b[b.X]", "import \"b\"; var x = b.X[b.X]"}, pair{"import \"b\"; var x = b()", "import \"b\"; var x = b.X()"},
		pair{"import \"b\"; var x = b.X; var y = T{b: b}", "import \"b\"; var x = b.S{b: b.X}"}, pair{"import \"b\"; type t struct { b }", "import \"b\"; type t struct { b b.T }"}, pair{"import \"b\"; type t interface { b }", "import \"b\"; type t interface { b() b.T }"},
		pair{"import \"b\"", "import \"b\"; type t b.T"}, pair{"import \"b\"; func f(b int) { b++ }", "import \"b\"; func f(b b.T) { b++ }"}, pair{"import \"b\"; import \"c\"; var x = b.X", "import \"b\"; import \"c\"; var x = b.X + c.X"},
		pair{"import \"b\"; func f() { b = 1 }", "import \"b\"; func f() { b.X = 1 }"}, pair{"import \"b\"; func f() { b := 1; print(b) }", "import \"b\"; func f() { b, _ := b.X, 1; print(b) }"}, pair{"import \"b\"; func f() { for b := range 1 { print(b.X) } }", "import \"b\"; func f() { for b := range b.X { print(b) } }"},
		pair{"import \"b\"; func f() { b++ }", "import \"b\"; func f() { b.X++ }"}, pair{"import \"b\"; var b = b.X", "import \"b\"; var a = b.X"}, pair{"import \"b\"; type b b.T", "import \"b\"; type a b.T"}, pair{"import \"b\"; func b() { b.X() }", "import \"b\"; type t b.T; func (b t) b() {}"},
		pair{"import \"b\"; const b = b.C", "import \"b\"; func f() { const b = b.C }"}, pair{"import \"b\"; type t struct { x.b }; var x = b.X; var z = b", "import \"b\"; type t struct { x.b }; var x = b.X"})
	// What counts is the file in which the import stands; what clashes, an object in any file of the package.
	b := []string{"b/b.gc", "package b; var X = 1"}
	two := func(first, second string) []api.File {
		return files(append(b, "main/a.gc", "package main; "+first, "main/c.gc", "package main; "+second)...)
	}
	taken(t, "P12.4", two("import \"b\"; func main() { print(b.X) }", "import \"b\"; var x = b.X"))
	rejected(t, "P12.4", two("import \"b\"; func main() { print(b.X) }", "import \"b\"; var x = 1"))
	rejected(t, "P12.4", two("import \"b\"; func main() { print(b.X) }", "var x = b.X"))
	rejected(t, "P12.4", two("import \"b\"; func main() { print(b.X) }", "var b = 1"))
	rejected(t, "P12.4", two("func main() {}; func b() {}", "import \"b\"; var x = b.X"))
	taken(t, "P12.4", two("func main() {}; func f(b int) {}", "import \"b\"; var x = b.X"))
}

func TestImportNames(t *testing.T) {
	named := func(name string) []api.File {
		return files("main/a.gc", "package main; import \""+name+"\"; func main() { print("+name+".X) }", name+"/b.gc", "package "+name+"; var X = 1")
	}
	for _, name := range []string{"int", "string", "bool", "any", "comparable", "true", "false", "nil", "append", "close", "len", "make", "new", "panic", "print", "read", "recover"} {
		rejected(t, "P12.4: an import of "+name, named(name))
	}
	for _, name := range []string{"ints", "main1", "mai", "error", "cap", "b", "x1"} {
		taken(t, "P12.4: an import of "+name, named(name))
	}
	// Such a package may be, if nobody imports it.
	taken(t, "P12.4", files("main/a.gc", "package main; func main() {}", "len/b.gc", "package len; var X = len(\"\")"))
	rejected(t, "P12.4: an import of main", files("main/a.gc", "package main; var X = 1; func main() {}", "b/b.gc", "package b; import \"main\"; var Y = main.X"))
}

func TestNothing(t *testing.T) {
	differ(t, "nothing", inMain,
		pair{"y", "print"}, pair{"print(x)", "print(nil)"}, pair{"x = 1", "_ = 1"}, pair{"x.y = 1", "main.y = 1"}, pair{"var x = x; print(x)", "var x = main; print(x)"}, pair{"x := x; print(x)", "x := main; print(x)"},
		pair{"{ x := 1; print(x) }; print(x)", "x := 1; { print(x) }; print(x)"}, pair{"print(x); x := 1; print(x)", "x := 1; print(x)"}, pair{"for x := range x { print(x) }", "for x := range main { print(x) }"},
		pair{"if x := 1; true { print(x) }; print(x)", "if x := 1; true { print(x) }"}, pair{"select { case x := <-x: print(x) }", "select { case x := <-main: print(x) }"}, pair{"switch 1 { case 1: x := 1; print(x); case 2: print(x) }", "switch 1 { case 1: x := 1; print(x); case 2: print() }"},
		pair{"for x := 1; ; { print(x) }; print(x)", "for x := 1; ; { print(x) }"}, pair{"func(x int) {}(x)", "func(x int) {}(1)"}, pair{"var x T; print(x)", "var x int; print(x)"}, pair{"print(T{})", "print(int{})"}, pair{"print(main.y, b.X)", "print(main.y, main.X)"},
		pair{"const c = c", "const c = 1"}, pair{"float64(1)", "int(1)"}, pair{"x++", "main++"}, pair{"func() { x := 1; print(x) }(); print(x)", "func() { x := 1; print(x) }(); print(main)"}, pair{"for ; x > 0; x := 1 { print(x) }", "for ; ; x := 1 { print(x) }"})
	differ(t, "nothing", withMain,
		pair{"type T U", "type T T"}, pair{"func f(a int) a {}", "func f(a int) int {}"}, pair{"func f(a int, b a) {}", "func f(a int, b int) {}"}, pair{"func f(a int) {}; var b = a", "func f(a int) { b := a; print(b) }"},
		pair{"func f[T any](a T) {}; var b T", "func f[T any](a T) { var b T; print(b) }"}, pair{"func (t T) M() {}", "func (t T) M() {}; type T int"}, pair{"type T struct { a int }; var b = a", "type T struct { a int }; var b = T"},
		pair{"type T int; func (t T) M() {}; var b = M", "type T int; func (t T) M() {}; var b = T.M"}, pair{"type T interface { M() }; var b = M", "type T interface { M() }; var b = T.M"}, pair{"type T struct { U }", "type T struct { U }; type U int"},
		pair{"type T interface { U }", "type T interface { T }"}, pair{"func f[T U]() {}", "func f[T T]() {}"}, pair{"var x = T{y: y}", "type T int; var x = T{y: x}"}, pair{"type T struct { a.b }", "type T struct { T.b }"})
	// What another package has is nothing here.
	rejected(t, "P12.4", files("main/a.gc", "package main; func main() { print(X) }", "b/b.gc", "package b; var X = 1"))
	rejected(t, "P12.4", files("main/a.gc", "package main; func main() { print(b.X) }", "b/b.gc", "package b; var X = 1"))
}

func TestIdle(t *testing.T) {
	differ(t, "not used", inMain,
		pair{"var x int", "var x int; print(x)"}, pair{"var x = 1", "const x = 1"}, pair{"x := 1", "x := 1; _ = x"}, pair{"x := 1; x = 2", "x := 1; x += 2"}, pair{"x := 1; x = 2; x = 3", "x := 1; x++"}, pair{"x, y := 1, 2; x, y = 3, 4", "x, y := 1, 2; x, y = y, x"},
		pair{"x, y := 1, 2; print(x)", "x, _ := 1, 2; print(x)"}, pair{"x := 1; x, y := 2, 3; print(y)", "x := 1; x, y := x, 3; print(y)"}, pair{"for x := range 1 {}", "for x := range 1 { print(x) }"}, pair{"for x, y := range 1 { print(x) }", "for x, _ := range 1 { print(x) }"},
		pair{"for x := range 1 { x = 1 }", "for x := range 1 { x = x }"}, pair{"select { case x := <-nil: }", "select { case x := <-nil: print(x) }"}, pair{"select { case x, y := <-nil: print(y) }", "select { case _, y := <-nil: print(y) }"}, pair{"select { case x := <-nil: x = 1 }", "select { case x := <-nil: x -= 1 }"},
		pair{"if x := 1; true {}", "if x := 1; x > 0 {}"}, pair{"for x := 1; ; x = 2 {}", "for x := 1; ; x++ {}"}, pair{"x := 1; func() { x = 2 }()", "x := 1; func() { (x) = 2 }()"}, pair{"x := 1; { x := 2; print(x) }", "x := 1; { x := x; print(x) }"},
		pair{"func() { x := 1 }()", "func() { x := 1; print(x) }()"}, pair{"x := 1; x = func() int { return 1 }()", "x := 1; x = func() int { return x }()"}, pair{"for ; ; x := 1 {}", "for ; ; x := 1 { print(x) }"}, pair{"x := 1; print(main.x)", "x := 1; print(x.x)"}, pair{"x := 1; print(main{x: 1})", "x := 1; print(main{x: x})"},
		pair{"x := 1; if x = 2; true {}", "x := 1; if x++; true {}"}, pair{"x := 1; switch 1 { case 1: x = 2 }", "x := 1; switch x { case 1: x = 2 }"}, pair{"var x int; x = 1", "var x int; *x = 1"}, pair{"x := 1; x = 2", "x := 1; x.y = 2"}, pair{"x := 1; x = 2", "x := 1; x[1] = 2"}, pair{"x := 1; x = 2", "x := 1; main[x] = 2"}, pair{"x := 1; x = 2", "x := 1; x <- 2"})
	differ(t, "not used", withMain,
		pair{"var f = func() { x := 1 }", "var f = func() { x := 1; print(x) }"}, pair{"type T int; func (t T) M() { var x int }", "type T int; func (t T) M(x int) {}"}, pair{"func f(x int) { { x := x } }", "func f(x int) { { x := x; x++ } }"})
	// Neither variables of a package nor parameters need be used, nor constants, types and functions.
	taken(t, "P12.4", withMain("var x int; const c = 1; type T int; func f[U any](a int) { const d = 1; a = 1 }; func (t T) M() {}; var g = func(a int) { x = 1 }"))
}

func TestBlank(t *testing.T) {
	differ(t, "a blank", inMain,
		pair{"print(_)", "print(nil)"}, pair{"_ += 1", "_ = 1"}, pair{"_ -= 1", "_, _ = 1, 2"}, pair{"_++", "main++"}, pair{"_ = _", "_ = main"}, pair{"(_) = 1", "_ = (main)"}, pair{"_.x = 1", "main.x = 1"}, pair{"_[1] = 1", "main[1] = 1"}, pair{"*_ = 1", "*main = 1"},
		pair{"var _ int", "var x int; print(x)"}, pair{"var _ = 1", "_ = 1"}, pair{"const _ = 1", "const x = 1"}, pair{"x := _; print(x)", "x, _ := 1, 2; print(x)"}, pair{"var x _; print(x)", "var x int; print(x)"}, pair{"for range _ {}", "for _ := range 1 {}"}, pair{"for x := range _ { print(x) }", "for _, x := range 1 { print(x) }"},
		pair{"select { case <-_: }", "select { case _ := <-nil: }"}, pair{"select { case _ <- 1: }", "select { case _, _ := <-nil: }"}, pair{"_ <- 1", "main <- 1"}, pair{"go _()", "go main()"}, pair{"_()", "main()"}, pair{"return _", "return main"}, pair{"print(main._)", "print(main.x)"}, pair{"print(main{_: 1})", "print(main{x: 1})"}, pair{"print(_{})", "print(main{})"},
		pair{"print(func() _ {})", "print(func(_ int) {})"}, pair{"print(func(x _) {})", "print(func(_ int, _ int) {})"}, pair{"print(main.(_))", "print(main.(int))"}, pair{"print(main._.x)", "print(main.x.x)"}, pair{"_", "main"}, pair{"switch 1 { case _: }", "switch 1 { case 1: }"}, pair{"if _ {}", "if true {}"})
	differ(t, "a blank", withMain,
		pair{"var _ = 1", "var x = 1"}, pair{"const _ = 1", "const x = 1"}, pair{"type _ int", "type x int"}, pair{"func _() {}", "func x() {}"}, pair{"func f[_ any]() {}", "func f[T any]() {}"}, pair{"type T int; func (_ T) M() {}", "type T int; func (t T) M() {}"}, pair{"type T int; func (t T) _() {}", "type T int; func (t T) M(_ int) {}"},
		pair{"func (t _) M() {}", "type T int; func (t T) M() {}"}, pair{"type T struct { _ int }", "type T struct { x int }"}, pair{"type T struct { _ }", "type T struct { T }"}, pair{"type T interface { _() }", "type T interface { M() }"}, pair{"type T interface { _ }", "type T interface { T }"},
		pair{"type T struct { T._ }", "type T struct { T.x }"}, pair{"type T struct { _.T }", "type T struct { T.T }"}, pair{"type T _", "type T int"}, pair{"func f(_ _) {}", "func f(_ int) {}"}, pair{"func f[T _]() {}", "func f[T int]() {}"}, pair{"type T func(_)", "type T func(int)"}, pair{"type T interface { M(_) }", "type T interface { M(int) }"}, pair{"var x T._; type T int", "var x T.x; type T int"})
}

func TestLeaving(t *testing.T) {
	for _, stmt := range []string{"break", "continue"} {
		for _, stmts := range []string{stmt, "{ " + stmt + " }", "if true { " + stmt + " }", "if true {} else { " + stmt + " }", "for {}; " + stmt, "for { func() { " + stmt + " }() }", "for range func() { " + stmt + " } {}", "for { go func() { if true { " + stmt + " } }() }", "switch func() { " + stmt + " } {}", "select { case <-func() { " + stmt + " }: }", "for func() bool { " + stmt + " }() {}"} {
			rejected(t, "P12.4: "+stmt, inMain(stmts))
		}
		for _, stmts := range []string{"for { " + stmt + " }", "for range 1 { " + stmt + " }", "for { if true { { " + stmt + " } } }", "for { switch 1 { case 1: " + stmt + " } }", "for { select { default: " + stmt + " } }", "func() { for { " + stmt + " } }()", "for { func() {}(); " + stmt + " }", "for i := 0; i < 1; i++ { for { }; " + stmt + " }", "switch 1 { case 1: for { " + stmt + " } }"} {
			taken(t, "P12.4: "+stmt, inMain(stmts))
		}
	}
	differ(t, "leaving", inMain, pair{"switch 1 { case 1: continue }", "switch 1 { case 1: break }"}, pair{"select { default: continue }", "select { default: break }"}, pair{"switch 1 { default: if true { continue } }", "switch 1 { default: if true { break } }"},
		pair{"switch 1 { default: }; break", "switch 1 { default: break }"}, pair{"select { case <-nil: func() { break }() }", "select { case <-nil: func() {}(); break }"}, pair{"for { switch 1 { case 1: func() { continue }() } }", "for { switch 1 { case 1: continue } }"})
	differ(t, "leaving", withMain, pair{"var f = func() { break }", "var f = func() { for { break } }"}, pair{"type T int; func (t T) M() { continue }", "type T int; func (t T) M() { for { continue } }"})
}

func TestFuncMain(t *testing.T) {
	for _, text := range []string{"package main", "package main; func Main() {}", "package main; func main(a int) {}", "package main; func main(_ int) {}", "package main; func main(a ...int) {}", "package main; func main() int {}", "package main; func main() (int, int) {}", "package main; func main[T any]() {}",
		"package main; var main = func() {}", "package main; const main = 1", "package main; type main int", "package main; type T int; func (t T) main() {}", "package main; type T struct { main int }"} {
		rejected(t, "P12.4", files("main/a.gc", text))
		rejected(t, "P12.4", files("main/a.gc", text, "b/b.gc", "package b; func main() {}"))
	}
	taken(t, "P12.4", files("main/a.gc", "package main; func main() {}", "b/b.gc", "package b; func main(a int) int {}", "c/c.gc", "package c; var main = 1"))
	taken(t, "P12.4", files("main/a.gc", "package main", "main/b.gc", "package main; func main() {}", "main/c.gc", "package main"))
	rejected(t, "P12.4", files("main/a.gc", "package main; func main() {}", "main/b.gc", "package main; func main() {}"))
}
