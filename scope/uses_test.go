package scope_test

import "testing"

// stands wants what identifiers in a function of package main stand for to be as the marks say.
func stands(t *testing.T, stmts string) {
	t.Helper()
	says(t, "main/a.gc", "package main; func main'm() { "+stmts+" }")
}

// beside wants that of declarations of package main.
func beside(t *testing.T, decls string) {
	t.Helper()
	says(t, "main/a.gc", "package main; "+decls+"; func main'm() {}")
}

func TestExamples(t *testing.T) {
	stands(t, "x'1 := 1; print'0(x'1)")
	stands(t, "x'1 := 1; if x'2 := x'1; x'2 > 0 {}")
	for _, s := range []string{"x := 1; x = 2", "y", "x := 1; x := 2", "break"} {
		rejected(t, "P12.4", inMain(s))
	}
}

func TestBlocks(t *testing.T) {
	stands(t, "x'1 := 1; { print'0(x'1); x'2 := x'1; print'0(x'2); { x'3 := x'2; print'0(x'3) }; print'0(x'2) }; print'0(x'1)")
	stands(t, "x'1 := 1; { x'2 := 2; print'0(x'2) }; { x'3 := x'1; print'0(x'3) }")
	stands(t, "{ main'm(); main'1 := main'm; main'1() }; main'm()")
	stands(t, "var x'1 int'0; { var x'2 = x'1; print'0(x'2) }; { const x'3 = x'1; print'0(x'3) }")
	stands(t, "var int'1 int'0; var x'2 int'1; print'0(x'2)")
	stands(t, "const c'1 = 1; { const d'2 c'1 = c'1; const c'3 = d'2; print'0(c'3) }")
	// What is declared further on is not seen yet.
	says(t, "main/a.gc", "package main; var x'g = 1; func main'm() { print'0(x'g); x'1 := x'g; print'0(x'1); { print'0(x'1); x'2 := x'1; x'2++ } }")
	says(t, "main/a.gc", "package main; var x'g = 1; func main'm() { f'1 := func() { print'0(x'g) }; var x'2 = func() { x'g = 1 }; f'1(); x'2() }")
	stands(t, "x'1, y'2 := 1, 2; x'1, y'2, z'3 := y'2, x'1, 3; print'0(z'3)")
	stands(t, "x'1 := 1; { x'2, y'3 := x'1, x'1; print'0(x'2, y'3) }")
	stands(t, "x'1 := func() { x'2 := 1; x'2++ }; x'1()")
}

func TestHeads(t *testing.T) {
	stands(t, "if x'1 := 1; x'1 > 0 { x'2 := x'1; print'0(x'2) } else if y'3 := x'1; x'1 > y'3 { print'0(x'1, y'3) } else { x'4, y'5 := x'1, y'3; print'0(x'4, y'5) }")
	stands(t, "x'1 := 1; if x'2 := x'1; true'0 { x'3 := x'2; x'3++ } else { x'2++ }; x'1++")
	stands(t, "x'1 := 1; for x'2 := x'1; x'2 > 0; x'2++ { x'3 := x'2; x'3++ }; x'1++")
	stands(t, "x'1 := 1; for x'1 > 0 { x'2 := x'1; x'2++ }")
	stands(t, "x'1 := 1; for x'2, y'3 := range x'1 { print'0(x'2); x'4 := y'3; print'0(x'4) }; x'1++")
	stands(t, "x'1 := 1; for x'2 := range func() int'0 { return x'1 }() { print'0(x'2) }")
	stands(t, "x'1 := 1; for _, x'2 := range x'1 { x'3, y'4 := x'2, x'2; print'0(x'3, y'4) }")
	stands(t, "x'1 := 1; switch x'1 { case x'1: x'2 := x'1; print'0(x'2); case x'1, 2: var x'3 = x'1; { x'4 := x'3; x'4++ }; default: x'5 := x'1; x'5++ }; x'1++")
	stands(t, "x'1 := 1; select { case x'2 := <-x'1: x'2++; case y'3, x'4 := <-x'1: print'0(y'3, x'4); case x'1 <- x'1: x'5 := x'1; x'5++; case <-x'1: x'1++; default: x'6 := x'1; x'6++ }")
	// What the last part of a head defines stands ahead of the block in the text.
	stands(t, "for ; ; x'1 := 1 { x'1++ }")
	// A head that declares nothing has its block within it all the same.
	stands(t, "x'1 := 1; for ; ; x'1++ { x'2 := x'1; x'2++ }; if x'1 = 2; true'0 { x'3 := x'1; x'3++ }")
}

func TestFunctions(t *testing.T) {
	beside(t, "func f'1(a'2 int'0, b'3 ...int'0) int'0 { return a'2 + b'3 }")
	// Parameters stand behind the results alone, type parameters everywhere in the function.
	beside(t, "func f'1(int'2 int'0, string'3 int'0) string'0 { return int'2 + string'3 }")
	beside(t, "func f'1[T'2 U'3, U'3 T'2](T2'4 T'2, a'5 func(T'2) U'3) (T'2, []U'3) { var t'6 T'2; t'6 = t'6; return t'6, T2'4, a'5 }")
	beside(t, "type T'1 int'0; func f'2[T'3 interface { M'4(T'3) T'3 }|T'3](a'5 T'3) T'3 {}; func g'6(a'7 T'1) T'1 {}")
	beside(t, "type T'1 int'0; func (T'2 T'1) M'3(a'4 T'1) T'1 { T'2.M(a'4) }; func (t'5 *T'1) N'6() { t'5.N(t'5) }")
	beside(t, "func f'1[f'2 any'0](a'3 f'2) { f'2(a'3) }; func g'4(g'5 int'0) { g'5++ }")
	beside(t, "var f'1 = func(a'2 int'0, int'3 f'1) int'0 { return a'2 + int'3 }")
	stands(t, "a'1 := 1; f'2 := func(a'3 a'1, b'4 a'1) a'1 { c'5 := a'3; return func(c'6 c'5) c'5 { return c'6 + b'4 } }; f'2(a'1)")
	stands(t, "f'1 := func() { f'2 := main'm; f'2() }; f'1()")
	beside(t, "func f'1(a'2 int'0) { a'2, b'3 := a'2, 1; print'0(b'3); { a'4 := a'2; a'4++ } }")
	beside(t, "func f'1[T'2 any'0](a'3 int'0) { T'2, b'4 := 1, 1; print'0(b'4) }")
	stands(t, "func(a'1 int'0) { a'1, b'2 := 1, 2; print'0(b'2) }(1)")
	beside(t, "func f'1(_ int'0, a'2 func(int'0, ...f'1) f'1, _ chan f'1) {}")
}

func TestTypesAndMembers(t *testing.T) {
	beside(t, "type T'1 struct { a'2 T'1; b'3 *b'4; U'5; string'0; c'6 []chan func(T'1, ...U'5) (U'5, T'1) }; type U'5 (T'1); var b'4 int'0")
	beside(t, "type I'1 interface { M'2(I'1, M'3) M'3; J'4; N'5() }; type J'4 interface {}; type M'3 int'0")
	beside(t, "type T'1 struct { x'2 int'0 }; var t'3 = T'1{x: x'4}; var x'4 = t'3.x; var y'5 = (t'3).x.y.z; var z'6 = []T'1{T'1{t'3}, T'1{}}[x'4].x")
	beside(t, "var a'1 = b'2.(c'3).d.(*c'3); var b'2 = -a'1 + <-b'2*(a'1); var d'4 = a'1[b'2](c'3(a'1), []c'3, chan c'3, b'2...); type c'3 int'0")
	beside(t, "var a'1 = make'0([]int'0, 3); var b'2 = f'3[int'0, struct { q'4 any'0 }](a'1, nil'0); func f'3[T'5 comparable'0]() {}")
	// Neither a field nor a method is seen by its name alone.
	beside(t, "type T'1 struct { a'2 int'0 }; func (t'3 T'1) b'4() { t'3.b(t'3.a, a'5, b'6) }; var a'5 = 1; var b'6 = T'1{a: a'5}")
	// The name of a package is nothing in it.
	says(t, "main/a.gc", "package main; func main'1() { main'1() }")
	says(t, "main/a.gc", "package main; func main'1() {}", "a/a.gc", "package a; var a'2 = a'2; func main'3(x'4 int'0) int'0 {}", "b/b.gc", "package b; var main'5 = 1")
}

func TestStatements(t *testing.T) {
	stands(t, "a'1, b'2 := 1, 2; a'1, b'2 = b'2, a'1; a'1 += b'2; a'1++; a'1 <- b'2; go a'1(b'2); defer b'2(a'1); a'1.x[b'2] = 1; *a'1 = 2; _, _ = a'1, b'2; return a'1, b'2")
	stands(t, "_, a'1, _ := 1, 2, 3; _ = a'1")
	stands(t, "for { break; continue; if true'0 { break } else { continue }; { break }; switch 1 { case 1: break; continue }; select { default: break; continue } }")
	stands(t, "for range 1 { break; continue; for { break; continue }; continue }; select { case <-nil'0: { break } }")
	stands(t, "for { func() { for { break; continue }; switch 1 { case 1: break } }(); break; continue }")
}

// A package's objects stand everywhere in its files, one file's imports in that one alone.
func TestFiles(t *testing.T) {
	says(t, "main/a.gc", "package main; func main'1() { print'0(x'2, f'3) }; var x'2 = y'4", "main/b.gc", "package main; func f'3() { main'1() }; var y'4 = T'5(x'2); type T'5 int'0")
	says(t, "main/a.gc", "package main; import \"b\"; func main'1() { print'0(b'2.X'3, b'2.F'4(b'2.X'3)) }",
		"main/c.gc", "package main; import \"b\"; var x'5 = b'6.C'7; type Y'8 struct { b'6.T'9; t'a b'6.T'9 }; var z'b b'6.T'9 = b'6.T'9{x: x'5}",
		"b/b.gc", "package b; var X'3 = y'c; func F'4(a'd int'0) {}; const C'7 = 1; type T'9 struct { x'e int'0 }", "b/c.gc", "package b; var y'c = X'3; type t'f T'9")
	// What is local stands ahead of an import, within its scope.
	says(t, "main/a.gc", "package main; import \"b\"; func main'1() { print'0(b'2.X'3); b'4 := b'2.X'3; print'0(b'4, b'4.x); { b'5 := b'4.X; print'0(b'5) } }; func f'6(b'7 b'2.T'8) b'2.T'8 { return b'7.X }",
		"b/b.gc", "package b; var X'3 = 1; type T'8 int'0")
	says(t, "main/a.gc", "package main; import \"b\"; func main'1() { b'2.X'3.y.z = 1; b'2.X'3 = b'2.F'4; for range b'2.X'3 {}; f'5[b'2.T'6]() }; func f'5[T'7 b'2.T'6]() {}",
		"b/b.gc", "package b; var X'3 = 1; type T'6 int'0; func F'4() {}")
	// A name that another file imports is free here, if no object of the package has it.
	says(t, "main/a.gc", "package main; import \"b\"; func main'1() { print'0(b'2.X'3) }", "main/c.gc", "package main; func f'4(b'5 int'0) { b'5++ }", "b/b.gc", "package b; var X'3 = 1; var b'6 = X'3")
	// What is imported further on.
	says(t, "main/a.gc", "package main; import \"b\"; func main'1() { b'2.X'3() }", "b/b.gc", "package b; import \"c\"; var X'3 = c'4.X'5", "c/c.gc", "package c; var X'5 = 1", "d/d.gc", "package d; import \"b\"; var X'6 = b'7.X'3")
}
