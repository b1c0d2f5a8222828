package uses_test

import (
	"testing"

	"recast/api"
	"recast/check"
	"recast/module"
	"recast/uses"
)

func TestKin(t *testing.T) {
	for _, text := range []string{
		// The document's example.
		"type T'a struct {}; func (t'b T'a) M'c() {}; type U'd int; func (u'e *U'd) M'c() {}; type I'f interface { M'c() }; func f'g(i'h I'f, t'i T'a) { i'h.M'c(); t'i.M'c() }",
		// Objects that have nothing in common.
		"type T'a struct { x'b int }; type U'c struct { x'd int }; func (t'e T'a) M'f() {}; func (t'g U'c) M'h() {}; var x'i = 1; func f'j(x'k int) { print(x'k, i'l); if x'm := x'k; x'm > 0 { print(x'm) } }; var i'l = x'i",
		"const c'a = 1; var v'b = c'a; func g'c[X'd any](x'e X'd) X'd { return x'e }; var w'f = g'c(v'b)",
		// A type and the fields that embed it, in structs of their own; not a field of that type, or of its name.
		"type T'a struct { x'b int }; type U'c struct { T'a }; type V'd struct { U'c; T'a }; type W'e U'c; var v'f = V'd{U'c: U'c{T'a: T'a{x'b: 1}}, T'a: T'a{}}; var w'g = W'e{T'a: v'f.T'a}.T'a.x'b; var x'h = v'f.U'c.x'b",
		"type T'a int; type S'b struct { T'a }; type U'c struct { T'd int; S'e T'a }; var s'f = S'b{}.T'a; var u'g = U'c{}.T'd; var w'h = U'c{}.S'e",
		// Methods that implement: those with an unlike Sig do not, nor those of a type that has not all.
		"type T'a int; func (t'b T'a) M'c() {}; type U'd int; func (t'e U'd) M'f(x'g int) {}; type I'h interface { M'c() }; type J'i interface { M'f(int) }",
		"type T'a int; func (t'b T'a) M'c() {}; type I'd interface { M'e(); N'f() }; type U'g int; func (t'h U'g) M'e() {}; func (t'i U'g) N'f() {}",
		"type T'a int; func (t'b T'a) M'c() {}; func (t'd T'a) N'e() {}; type I'f interface { M'c() }; type U'g int; func (t'h U'g) M'c() {}; func (t'i U'g) N'j() {}",
		// By a pointer alone, or partly.
		"type T'a int; func (t'b *T'a) M'c() {}; type I'd interface { M'c() }",
		"type T'a int; func (t'b *T'a) M'c() {}; func (t'd T'a) N'e() {}; type I'f interface { M'c(); N'e() }; type J'g interface { N'e() }",
		// Promoted methods, in types declared as others too, and in declared pointers; not of declared pointers to these.
		"type T'a int; func (t'b T'a) M'c() {}; type U'd struct { T'a }; type V'e U'd; type I'f interface { M'c() }; var v'g I'f = V'e{}",
		"type T'a int; func (t'b T'a) M'c() {}; type U'd struct { T'a; t'e int }; func (u'f *U'd) M'c() {}; type I'g interface { M'c() }; var v'h I'g = U'd{}.T'a",
		"type T'a struct { n'b int }; func (t'c *T'a) M'd() {}; type P'e *T'a; type I'f interface { M'd() }; type J'g interface { N'h(P'e) }; var p'i P'e; var i'j I'f = p'i",
		"type T'a int; type U'b T'a; func (t'c T'a) M'd() {}; func (u'e U'b) N'f() {}; type I'g interface { M'd() }; type J'h interface { N'f() }",
		// Twice at one depth is not at all: neither M is U's.
		"type T'a int; func (t'b T'a) M'c() {}; type S'd int; func (s'e S'd) M'f() {}; type U'g struct { T'a; S'd }; func (u'h U'g) N'i() {}; type I'j interface { M'k(); N'i() }; type J'm interface { N'i() }",
		// One type joins interfaces that have nothing else in common, and through them other types.
		"type I'a interface { M'b() }; type J'c interface { M'b(); N'd() }; type K'e interface { N'd() }; type T'f int; func (t'g T'f) M'b() {}; func (t'h T'f) N'd() {}; type U'i int; func (u'j U'i) N'd() {}; type V'k int; func (v'l V'k) M'b() {}",
		"type I'a interface { M'b() }; type K'c interface { N'd() }; type U'e int; func (u'f U'e) N'd() {}; type V'g int; func (v'h V'g) M'b() {}",
		// Interfaces with one method alike, and no type: each implements itself alone.
		"type I'a interface { M'b() }; type J'c interface { M'd() int }; type K'e interface { M'd() int; N'f() }",
		"type I'a interface { M'b(); L'c() }; type J'd interface { M'e(); N'f() }",
		// Embedded interfaces, whose methods are those that are declared first; methods of type parameters.
		"type I'a interface { M'b() }; type J'c interface { I'a; N'd() }; type K'e J'c; func f'f[X'g K'e](x'h X'g) { x'h.M'b(); x'h.N'd() }; func g'i(k'j K'e) { k'j.M'b() }",
		// Interfaces without methods have nothing to do with anyone.
		"type A'a any; type E'b interface {}; type T'c int; func (t'd T'c) M'e() {}; type U'f int; func (u'g U'f) M'h() {}; type I'i interface { E'b; A'a; any }",
	} {
		belong(t, "main/a.gc", "package main; "+text+"; func main'_() {}")
	}
}

func TestPackages(t *testing.T) {
	belong(t,
		"main/a.gc", "package main; import \"c\"; import \"b\"; type U'a struct { b'0.T'b; c'0.S'c; x'd int }; type V'e U'a; type J'f interface { c'0.I'g; N'h() b'0.T'b }; "+
			"func main'i() { u'j := U'a{}; u'j.M'k(u'j.T'b); u'j.S'c.Y'l = c'0.W'm; var i'n c'0.I'g = V'e(u'j); i'n.M'k(b'0.T'b(1)); print(u'j.Y'l, u'j.x'd) }",
		"b/b.gc", "package b; type T'b int; func M'o(t'p T'b) {}; func F'q(t'r T'b) { M'o(t'r) }",
		"c/a.gc", "package c; import \"b\"; type S'c struct { Y'l int }; func (s's S'c) M'k(t't b'0.T'b) {}; const W'm = 2; func (s'u *S'c) m'v() {}; type H'w interface { m'v() }",
		"c/b.gc", "package c; import \"b\"; type I'g interface { M'k(b'0.T'b) }",
	)
}

// What belongs together in one configuration does so with what does in another one.
func TestConfigurations(t *testing.T) {
	// The document's: one name that stands for two objects.
	belong(t, "main/a.gc", "package main; func main'a() { f'b() }", "main/b.gc", "//build t\npackage main; func f'b() {}", "main/c.gc", "//build !t\npackage main; func f'b() { g'c() }; func g'c() {}")
	// Just under a tag are they kin; a place joins what is never declared at once.
	belong(t, "main/a.gc", "package main; type T'a int; func (t'b T'a) M'c() {}; type U'd int; func (u'e U'd) M'c() {}; func main'f() {}", "main/b.gc", "//build t && u\npackage main; type I'g interface { M'c() }")
	belong(t, "main/a.gc", "package main; type T'a int; func (t'b T'a) M'c() {}; type U'd int; func (u'e U'd) M'f() {}; func main'g() {}", "main/b.gc", "//build t && !t\npackage main; type I interface { M() }")
	belong(t, "main/a.gc", "package main; func main'a() { v'b.M'c(); w'd.M'c() }", "main/t.gc", "//build t\npackage main; var v'b T'e; var w'd U'f; type T'e struct { U'f }; type U'f int; func (u'g U'f) M'c() {}", "main/u.gc", "//build !t\npackage main; type T'h int; type U'i string; var v'b T'h; var w'd U'i; func (u'j U'i) M'c() {}; func (t'k T'h) M'c() {}")
	belong(t, "main/a.gc", "package main; func main'a() { v'b.M'c() }", "main/s.gc", "//build !t\npackage main; var v'b T'd; type T'd int; func (t'e T'd) M'c() {}", "main/t.gc", "//build t && !u\npackage main; var v'b T'f; type T'f int; func (t'g T'f) M'c() {}; func (t'h T'f) N'i() {}", "main/u.gc", "//build t && u\npackage main; type T'j int; type I'k interface { M'c() }; var v'b I'k")
	// A field under one tag is a method's call under another one; a type and a field of its name.
	belong(t, "main/a.gc", "package main; func main'a() { v'b.f'c() }", "main/b.gc", "//build t\npackage main; var v'b = T'd{func() {}}; type T'd struct { f'c func() }", "main/c.gc", "//build !t\npackage main; type T'e int; var v'b T'e; func (t'f T'e) f'c() {}")
	belong(t, "main/a.gc", "package main; var v'a S'b; var w'c = v'a.T'd; func main'e() {}", "main/b.gc", "//build t\npackage main; type S'b struct { T'd }; type T'd int", "main/c.gc", "//build !t\npackage main; type S'b struct { T'd int }; type T'f int")
	// What is of the universe, or a package, in some configuration: none of those that belong to it have a Family.
	belong(t, "main/a.gc", "package main; func main'a() { print'0(1); f'b(2) }", "main/b.gc", "//build t\npackage main; func print'0(x'c int) { f'b(x'c); print'0(x'c) }; func f'b(x'd int) {}", "main/c.gc", "//build !t\npackage main; func f'b(x'e int) { print(x'e) }")
	belong(t, "main/a.gc", "//build t\npackage main; func len'0(x'a string) int { return 1 }; func f'b() { len'0(\"\") }", "main/b.gc", "package main; func main'c() { x'd := len'0(\"\"); print(x'd) }")
	belong(t, "main/a.gc", "package main; type T'a struct { x'b any'0 }; func main'c() { t'd := T'a{}; t'd.M'e(t'd.x'b) }; func (t'f T'a) M'e(x'g any'0) {}", "main/b.gc", "//build t\npackage main; type any'0 int; type U'h struct { any'0; y'i any'0 }; var u'j = U'h{any'0: 1}.any'0")
	belong(t, "main/a.gc", "package main; type T'a struct { any'b }; func main'c() {}; func (t'd T'a) M'e(x'f any'b) {}", "main/b.gc", "//build t || !t\npackage main; type any'b int")
}

func TestNoFamily(t *testing.T) {
	text := "package main; import \"b\"; func main() { var x any = b.X; print(x.(int), true, nil == x) }"
	l := files("main/a.gc", text, "b/b.gc", "package b; var X = 1")
	m := loaded(t, l)
	if check.All(m).Code != 0 {
		t.Fatal("wrong")
	}
	for _, what := range []string{"package", "main;", "import", "b\"", "b.X", "any", "print", "int", "true", "nil", "=", " ", ")"} {
		if l, ok := uses.Family(m, "main/a.gc", at(t, text, what, 0)); ok || len(l) > 0 {
			t.Errorf("P14.3: the Family at %q is %v, %v", what, l, ok)
		}
	}
	for _, p := range []uses.Place{{"", 0}, {"b/c.gc", 15}, {"main/a.gc", -1}, {"main/a.gc", 1 << 40}, {"main/a.gc", -1 << 63}, {"main/a.gc", at(t, text, "main() {", 0) + 1}} {
		if l, ok := uses.Family(m, p.Path, p.At); ok || len(l) > 0 {
			t.Errorf("P14.3: the Family at %v is %v, %v", p, l, ok)
		}
	}
	for what, m := range map[string]*module.Module{"nil": nil, "zero": {}, "no files": loaded(t, nil)} {
		if l, ok := uses.Family(m, "main/a.gc", 0); ok || len(l) > 0 {
			t.Errorf("P14.3: a Family of a module of %s is %v, %v", what, l, ok)
		}
	}
}

func TestWrongModules(t *testing.T) {
	right := "package main; func main() { f() }; func f() {}"
	for what, l := range map[string][]api.File{
		"wrong":                files("main/a.gc", right+"; var x = 1 + true"),
		"wrong under a tag":    files("main/a.gc", right, "main/b.gc", "//build t\npackage main; var x int = true"),
		"wrong without a tag":  files("main/a.gc", right, "main/b.gc", "//build !t\npackage main; var x int = true"),
		"wrong under two tags": files("main/a.gc", right, "main/b.gc", "//build t && u\npackage main; func f() {}"),
		"no package":           files("main/a.gc", right, "main/b.gc", "//build t && !u\npackage main; import \"b\"; var x = b.X"),
		"nothing":              files("main/a.gc", "//build t\n"+right),
	} {
		for n := range 200 {
			if l, ok := uses.Family(loaded(t, l), "main/a.gc", n); ok || len(l) > 0 {
				t.Errorf("P14.3: %s: the Family at %d is %v, %v", what, n, l, ok)
			}
		}
	}
	for n := range 2 {
		_, ok := uses.Family(loaded(t, files("main/a.gc", right, "main/b.gc", "//build t && !t\npackage main; var x int = true")), "main/a.gc", at(t, right, "f()", n))
		if !ok {
			t.Error("P14.3: what is wrong in no configuration has no Family")
		}
	}
}
