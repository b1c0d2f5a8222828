package scope_test

import (
	"fmt"
	"strings"
	"testing"

	"recast/api"
)

// list is objects: the kind, name and level of each.
func list(objs []api.Object) string {
	var out []string
	for _, o := range objs {
		out = append(out, fmt.Sprintf("%s %s %d", kindNames[o.Kind], o.Name, o.Level))
	}
	return strings.Join(out, ", ")
}

// placed tells whether objects stand in the order of their places, each where its name (or its import) does, with
// nothing told of them that is none of this layer's.
func placed(l []api.File, objs []api.Object) bool {
	texts := map[string]string{}
	for _, f := range l {
		texts[f.Path] = f.Text
	}
	last := api.Object{}
	for _, o := range objs {
		begins := o.Name
		if o.Kind == api.ObjPackage {
			begins = "import"
		}
		pkg, _, _ := strings.Cut(o.Path, "/")
		if o.Path < last.Path || o.Path == last.Path && o.At <= last.At || o.Pkg != pkg || !strings.HasPrefix(texts[o.Path][o.At:], begins) {
			return false
		}
		if fmt.Sprint(o.Type) != fmt.Sprint(api.Type{}) {
			return false
		}
		last = o
	}
	return true
}

// has wants files to have just these objects, in this order.
func has(t *testing.T, l []api.File, want string) {
	t.Helper()
	objs, _, ok := bound(t, l)
	if got := list(objs); !ok || got != want {
		t.Errorf("P12.2: Bind of %q is %v, with the objects\n%s, want\n%s", l, ok, got, want)
	}
	if !placed(l, objs) {
		t.Errorf("P12.5: the objects of %q are %v", l, objs)
	}
}

func TestPackageObjects(t *testing.T) {
	has(t, withMain("var a int"), "var a 0, func main 0")
	has(t, withMain("var q int; const w = 1; type E int; func r() {}"), "var q 0, const w 0, type E 0, func r 0, func main 0")
	has(t, withMain("type E int; func (q E) W() {}; func (w *E) R() {}"), "type E 0, param q 1, method W 0, param w 1, method R 0, func main 0")
	// Names of the universe may be declared.
	has(t, withMain("var print = 1; type int string; const nil = 1; func true() {}"), "var print 0, type int 0, const nil 0, func true 0, func main 0")
}

func TestMembers(t *testing.T) {
	has(t, withMain("type E struct { q int; w *E; string; F }; type F struct {}"), "type E 0, field q 0, field w 0, field string 0, field F 0, type F 0, func main 0")
	has(t, withMain("type E interface { Q(); W(int) int; R }; type R interface {}"), "type E 0, imethod Q 0, imethod W 0, type R 0, func main 0")
	// They stand in no scope, so they do not clash.
	has(t, withMain("type E struct { E int; q int; q int; E; main int }; type I interface { I(); q(); q() }; func (e E) q() {}; func (e E) q() {}; func (e E) main() {}"),
		"type E 0, field E 0, field q 0, field q 0, field E 0, field main 0, type I 0, imethod I 0, imethod q 0, imethod q 0, param e 1, method q 0, param e 1, method q 0, param e 1, method main 0, func main 0")
	// A struct within another one, within a function, within its head.
	has(t, withMain("type E struct { q struct { w int; E }; r interface { M() } }"), "type E 0, field q 0, field w 0, field E 0, field r 0, imethod M 0, func main 0")
	has(t, withMain("func f[T interface { M() }](a struct { x int }) struct { y int } { var b struct { z int }; b = b; print(b); return b }"),
		"func f 0, tparam T 1, imethod M 1, param a 1, field x 1, field y 1, var b 1, field z 1, func main 0")
	has(t, withMain("var f = func(a struct { x int }) interface { M() } { var b struct { z int }; print(b) }"), "var f 0, param a 2, field x 2, imethod M 2, var b 2, field z 2, func main 0")
	has(t, inMain("var b interface { M() }; print(b, func(c struct { x int }) {})"), "func main 0, var b 1, imethod M 1, param c 2, field x 2")
}

func TestEmbedded(t *testing.T) {
	l := files("main/a.gc", "package main; import \"b\"; type T struct { b.X; Y }; type Y interface { b.Z; E }; type E interface {}; func main() {}", "b/b.gc", "package b; type X struct {}; type Z interface {}")
	has(t, l, "type X 0, type Z 0, package b 0, type T 0, field X 0, field Y 0, type Y 0, type E 0, func main 0")
	// One that could be no type has its object all the same.
	has(t, withMain("var x int; type T struct { x.Y }"), "var x 0, type T 0, field Y 0, func main 0")
}

func TestPackageName(t *testing.T) {
	objs, _, _ := bound(t, files("main/b.gc", "package main; import \"q\"; func main() { print(q.X) }", "main/a.gc", "package main; import \"q\"; var y = q.X", "q/q.gc", "package q; var X = 1"))
	want := []string{"package q main main/a.gc 14 0", "var y main main/a.gc 30 0", "package q main main/b.gc 14 0", "func main main main/b.gc 31 0", "var X q q/q.gc 15 0"}
	for i, o := range objs {
		if i >= len(want) || shownObject(o) != want[i] {
			t.Errorf("P12.2: object %d is %s", i, shownObject(o))
		}
	}
	if len(objs) != len(want) {
		t.Errorf("P12.2: %d objects, want %d", len(objs), len(want))
	}
}

func TestFunctionObjects(t *testing.T) {
	has(t, withMain("func f(a int, b ...int) {}"), "func f 0, param a 1, param b 1, func main 0")
	has(t, withMain("func f[T any, U int|string](a T) U {}"), "func f 0, tparam T 1, tparam U 1, param a 1, func main 0")
	has(t, withMain("func f(_ int, a int, _ int) {}"), "func f 0, param a 1, func main 0")
	has(t, inMain("var a int; const b = 1; c := a; print(c)"), "func main 0, var a 1, const b 1, var c 1")
	has(t, inMain("const b = 1; const c int = b"), "func main 0, const b 1, const c 1")
	has(t, inMain("a, b, _ := 1, 2, 3; print(a, b)"), "func main 0, var a 1, var b 1")
	has(t, inMain("a := 1; b, a := a, a; print(b)"), "func main 0, var a 1, var b 1")
	has(t, inMain("for a, b := range 3 { print(a, b) }; for a := range 3 { print(a) }; for _, a := range 3 { print(a) }; for a, _ := range 3 { print(a) }; for _, _ := range 3 {}; for _ := range 3 {}; for range 3 {}"),
		"func main 0, var a 1, var b 1, var a 1, var a 1, var a 1")
	has(t, inMain("select { case a, b := <-nil: print(a, b); case a := <-nil: print(a); case _, a := <-nil: print(a); case _ := <-nil: case <-nil: case nil <- 1: default: }"),
		"func main 0, var a 1, var b 1, var a 1, var a 1")
	has(t, inMain("if a := 1; a > 0 { b := 1; print(b) } else if c := 1; c > 0 { d := 1; print(d) } else { e := 1; print(e) }"),
		"func main 0, var a 1, var b 1, var c 1, var d 1, var e 1")
	has(t, inMain("for a := 1; a > 0; a++ { b := 1; print(b) }"), "func main 0, var a 1, var b 1")
	has(t, inMain("switch 1 { case 1, 2: a := 1; print(a); default: b := 1; print(b) }; { c := 1; { d := 1; print(c, d) } }"), "func main 0, var a 1, var b 1, var c 1, var d 1")
}

func TestLevels(t *testing.T) {
	has(t, inMain("func(a int) { b := 1; func(c int) { d := 1; print(d) }(b) }(1); e := 1; print(e)"), "func main 0, param a 2, var b 2, param c 3, var d 3, var e 1")
	has(t, withMain("var f = func(a int) { b := 1; func(c int) { d := 1; print(d) }(b) }; const g = func() { const h = 1 }"),
		"var f 0, param a 2, var b 2, param c 3, var d 3, const g 0, const h 2, func main 0")
	has(t, withMain("type T int; func (t T) M(a int) { for b := range 1 { go func(c int) { select { case d := <-nil: print(b, d) } }(1) } }"),
		"type T 0, param t 1, method M 0, param a 1, var b 1, param c 2, var d 2, func main 0")
}
