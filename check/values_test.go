package check_test

import (
	"testing"

	"recast/api"
)

func TestComposites(t *testing.T) {
	differ(t, "composites", asValue,
		pair{"M{}", "M(1)"}, pair{"i{}", "U{}"}, pair{"int{}", "[]int{}"}, pair{"any{}", "[]any{}"}, pair{"I{}", "[]I{}"}, pair{"C{}", "C(nil)"}, pair{"Q{}", "Q(nil)"}, pair{"F{}", "F(nil)"}, pair{"one{}", "T{}"}, pair{"[]i{}", "[][]int{}"}, pair{"N{\"a\"}", "L{1}"},
		pair{"U{1, 2}", "U{1}"}, pair{"T{u}", "T{u, 1, nil, f}"}, pair{"U{\"a\"}", "U{k}"}, pair{"T{1, u, nil, f}", "T{u, i, p, nil}"}, pair{"O{1}", "O{}"}, pair{"U{m}", "U{int(m)}"}, pair{"T{u, 1, nil, id}", "T{u, 1, nil, g}"}, pair{"U{pair()}", "U{one()}"}, pair{"U{none()}", "U{(1)}"}, pair{"U{int}", "U{int(1)}"},
		pair{"U{x: 1}", "U{p: 1}"}, pair{"T{p: 1}", "T{x: 1}"}, pair{"T{x: 1, x: 2}", "T{x: 1, n: p}"}, pair{"T{x: 1, p}", "T{x: 1, U: u}"}, pair{"T{u, x: 1}", "T{f: f, U: u}"}, pair{"T{U: 1}", "T{U: U{1}}"}, pair{"T{n: t}", "T{n: &t}"}, pair{"U{m: 1}", "U{p: one()}"}, pair{"T{n: m}", "T{n: nil}"}, pair{"U{U: u}", "T{U: u}"}, pair{"T{T: t}", "T{n: &T{x: 1}}"}, pair{"T{x: pair()}", "T{x: id(1)}"},
		pair{"[]int{1, \"a\"}", "[]int{1, 2}"}, pair{"[]int{x: 1}", "[]int{i}"}, pair{"L{i: 1}", "L{i}"}, pair{"[]int{m}", "[]M{m, 1}"}, pair{"[]any{pair()}", "[]any{one(), \"a\", nil}"}, pair{"[]int{nil}", "[]*int{nil}"}, pair{"[]I{t, s}", "[]I{t, m}"}, pair{"[]int{int}", "[]int{int(1)}"}, pair{"[][]int{1}", "[][]int{a, l, nil}"}, pair{"[]L{[]M{}}", "[]L{a}"})
	differ(t, "composites of packages", abroad,
		pair{"_ = b.S{1, 2}", "_ = b.S{}"}, pair{"_ = b.S{y: 1}", "_ = b.S{X: 1}"}, pair{"_ = b.S{X: 1, y: 2}", "_ = b.W{X: 1, Y: \"a\"}"}, pair{"_ = b.W{1}", "_ = b.W{1, \"a\"}"}, pair{"_ = b.R{s, 1, 2}", "_ = b.R{s, 1}"}, pair{"_ = b.R{X: 1}", "_ = b.R{S: s, Z: 1}"}, pair{"_ = b.R3{b.New(), 1}", "_ = b.R2{w, 1}"}, pair{"_ = b.R3{hidden: b.New()}", "_ = b.R3{Z: 1}"}, pair{"_ = b.I{}", "_ = b.R3{}"}, pair{"_ = []b.S{b.S{1, 2}}", "_ = []b.S{b.S{X: 1}}"}, pair{"_ = b.W{\"a\", 1}", "_ = b.W{Y: \"a\"}"})
}

func TestSelectors(t *testing.T) {
	differ(t, "fields", asValue,
		pair{"t.y", "t.x"}, pair{"i.x", "p.x"}, pair{"T.x", "t.p"}, pair{"p.n.y", "p.n.n.p"}, pair{"nil.x", "q.x"}, pair{"k.x", "e.(T).x"}, pair{"e.x", "T{}.x"}, pair{"(&p).x", "(*p).x"}, pair{"pair().x", "id(t).x"}, pair{"t.U.x", "t.U.p"}, pair{"t.T", "t.U"}, pair{"u.U", "u.p"}, pair{"o.x", "t.f"}, pair{"one.x", "(&t).f"}, pair{"a.x", "[]T{t}[0].x"}, pair{"none().x", "new(T).x"},
		pair{"t.m", "t.m()"}, pair{"u.m", "u.m()"}, pair{"(t.m)()", "(t).m()"}, pair{"v.m", "v.m()"}, pair{"(v.m)()", "(v).m()"}, pair{"t.f.m()", "t.f(1)"}, pair{"id(t.m)", "id(t.m())"}, pair{"T.m(t)", "t.U.m()"}, pair{"(*T).s", "t.n.m()"}, pair{"v.s()", "w.m()"}, pair{"e.m()", "e.(I).m()"}, pair{"m.s()", "kt.m()"}, pair{"k.m()", "M(k).m()"}, pair{"(&v).m()", "(*&v).m()"}, pair{"(t.f).f", "(t.f)(1)"})
	differ(t, "methods of addresses", inMain,
		pair{"U{}.s()", "u.s()"}, pair{"T{}.s()", "t.s()"}, pair{"id(t).s()", "p.s()"}, pair{"T{}.U.s()", "t.U.s()"}, pair{"e.(U).s()", "e.(*U).s()"}, pair{"(U{}).s()", "(&U{}).s()"}, pair{"t.m().s()", "t.n.s()"}, pair{"e.(T).s()", "e.(J).s()"}, pair{"v.s()", "w.s()"}, pair{"id(u).s()", "id(w).s()"}, pair{"(<-make(chan U)).s()", "(<-make(chan *U)).s()"}, pair{"[]U{}.s()", "[]U{u}[0].s()"}, pair{"v.(U).s()", "v.(U).m()"},
		pair{"(id(t)).s()", "(t).s()"}, pair{"id(t).U.s()", "id(p).U.s()"}, pair{"U(u).s()", "(*&u).s()"})
	differ(t, "depths", alone,
		pair{"type X struct { Y; Z }; type Y struct { a int }; type Z struct { a int }; var x = X{}.a", "type X struct { Y; Z }; type Y struct { a int }; type Z struct { b int }; var x = X{}.a"},
		pair{"type X struct { Y; Z }; type Y struct { a int }; type Z struct {}; func (z Z) a() int { return 1 }; var x = X{}.a", "type X struct { Y; Z; a string }; type Y struct { a int }; type Z struct {}; func (z Z) a() int { return 1 }; var x string = X{}.a"},
		pair{"type X struct { Y; Z }; type Y struct { W }; type W struct { a int }; type Z struct { a string }; var x int = X{}.a", "type X struct { Y; Z }; type Y struct { W }; type W struct { a int }; type Z struct { a string }; var x string = X{}.a"},
		pair{"type X struct { y Y }; type Y struct { a int }; var x = X{}.a", "type X struct { Y }; type Y struct { a int }; var x = X{}.a"}, pair{"type X struct { y Y }; type Y struct {}; func (y Y) a() {}; func f() { X{}.a() }", "type X struct { Y }; type Y struct {}; func (y Y) a() {}; func f() { X{}.a() }"},
		pair{"type X Y; type Y struct {}; func (y Y) a() {}; func f() { X{}.a() }", "type X Y; type Y struct {}; func (y Y) a() {}; func f() { Y(X{}).a() }"}, pair{"type X Y; type Y struct { Z }; type Z struct {}; func (z *Z) a() {}; func f() { X{}.a() }", "type X Y; type Y struct { Z }; type Z struct {}; func (z *Z) a() {}; func f(x X) { x.a() }"})
	differ(t, "what is not for other packages", abroad,
		pair{"_ = s.y", "_ = s.X"}, pair{"s.h()", "_ = s.M()"}, pair{"_ = E{}.y", "_ = E{}.X"}, pair{"b.U.h()", "_ = b.U.M()"}, pair{"var x b.R; _ = x.y", "var x b.R; _ = x.X + x.Z"}, pair{"var x b.R; x.h()", "var x b.R; x.P()"}, pair{"var x b.R3; _ = x.hidden", "var x b.R3; _ = x.A"}, pair{"_ = b.New().B", "_ = b.New().A"}, pair{"s.y++", "s.X++"}, pair{"s.Q()", "s.P()"}, pair{"b.S{}.P()", "(&b.S{}).P()"}, pair{"b.L[0].h()", "b.L[0].P()"})
	// A field of a declared type of this package is of this package, whatever the type is declared as.
	taken(t, "P13.1: fields", abroad("_ = t.y; t.y = 1; _ = T{1, 2}; _ = T{y: 1}"))
	differ(t, "methods of constraints", func(s string) []api.File {
		return files("main/a.gc", "package main; import \"b\"; type I interface { m(); M() }; "+s+"; func main() { var x b.I; _ = x }", "b/b.gc", "package b; type I interface { m(); M() }")
	},
		pair{"func f[T b.I](x T) { x.m() }", "func f[T b.I](x T) { x.M() }"}, pair{"func f[T b.I, U I](x T, y U) { x.m() }", "func f[T b.I, U I](x T, y U) { y.m() }"}, pair{"func f[U I, T b.I](x T, y U) { x.m() }", "func f[U I, T b.I](x T, y U) { y.m() }"}, pair{"type J b.I; func f[T any](x T) { x.m() }", "type J b.I; func f[T J](x T) { x.m() }"}, pair{"func f[T b.I](x *T) { x.m() }", "func f[T I](x *T) { x.m() }"},
		pair{"func f[T b.I](x T) { func() { x.m() }() }", "func f[T I](x T) { func() { x.m() }() }"})
}

func TestIndexesAndAsserts(t *testing.T) {
	differ(t, "indexes", asValue,
		pair{"i[0]", "a[0]"}, pair{"p[0]", "l[i]"}, pair{"c[0]", "s[0]"}, pair{"nil[0]", "n[i]"}, pair{"e[0]", "\"abc\"[0]"}, pair{"1[0]", "ks[k]"}, pair{"a[m]", "a[int(m)]"}, pair{"a[\"a\"]", "a[k]"}, pair{"a[nil]", "a[a[0]]"}, pair{"a[kt]", "a[len(ks)]"}, pair{"a[0, 1]", "a[one()]"}, pair{"a[pair()]", "a[(0)]"}, pair{"a[int]", "a[int(m)]"}, pair{"a[e]", "a[e.(int)]"}, pair{"a[i == i]", "a[-1]"},
		pair{"a[[]int]", "[][]int{a}[0][0]"}, pair{"[]string{s}[0] + 1", "[]string{s}[0] + s"}, pair{"s[0] + \"a\"", "s[0] + i"}, pair{"t[0]", "[]T{t}[0]"}, pair{"one[0]", "one()"}, pair{"id[0](1)", "id[int](1)"}, pair{"ks[i] == ks", "ks[i] == i"})
	differ(t, "indexes", inMain, pair{"s[0] = 1", "a[0] = 1"}, pair{"\"a\"[0]++", "l[0]++"}, pair{"const x = ks[0]", "x := ks[0]; _ = x"}, pair{"[]int{1}[0] = s", "[]int{1}[0] = s[0]"})
	differ(t, "asserts", asValue,
		pair{"i.(int)", "e.(int)"}, pair{"t.(T)", "v.(T)"}, pair{"p.(I)", "any(p).(I)"}, pair{"nil.(int)", "any(nil).(int)"}, pair{"k.(int)", "any(k).(int)"}, pair{"v.(int)", "v.(M)"}, pair{"w.(T)", "w.(*T)"}, pair{"v.(O)", "v.(U)"}, pair{"v.(N)", "v.(E)"}, pair{"w.(U)", "w.(*U)"}, pair{"v.(string)", "v.(J)"}, pair{"e.(i)", "e.([]int)"}, pair{"e.(nil)", "e.(func() int)"}, pair{"w.(M)", "w.(any)"}, pair{"e.(comparable)", "e.(chan int)"}, pair{"v.(*O)", "v.(*U)"}, pair{"e.(one)", "e.(E)"}, pair{"e.(int) + s", "e.(int) + i"}, pair{"v.([]int)", "w.(interface {})"})
	differ(t, "asserts of packages", abroad, pair{"_ = b.U.(b.W)", "_ = b.U.(b.S)"}, pair{"_ = b.U.(T)", "_ = b.U.(b.R)"}, pair{"_ = b.U.(D)", "_ = b.U.(E)"})
}
