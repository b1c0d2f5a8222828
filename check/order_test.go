package check_test

import (
	"fmt"
	"math/rand/v2"
	"slices"
	"strings"
	"testing"

	"recast/api"
	"recast/check"
	"recast/module"
)

// orderOf is the names of the variables in the order in which they begin.
func orderOf(t *testing.T, l []api.File) string {
	t.Helper()
	r := taken(t, "P13.1: order", l)
	var out []string
	for _, number := range r.Order {
		o := r.Info.Objects[number]
		if o.Kind != api.ObjVar || o.Level != 0 {
			t.Errorf("P13.1: the order has the object %v", o)
		}
		out = append(out, strings.TrimPrefix(o.Pkg+"."+o.Name, "main."))
	}
	return strings.Join(out, " ")
}

func TestOrder(t *testing.T) {
	for _, row := range []struct{ decls, want string }{
		{"type T int", ""}, {"var a int; var b = 1; var c string", "a b c"}, {"var a = b; var b = c; var c = 1", "c b a"}, {"var a = 1; var b = a; var c = b", "a b c"}, {"var a = c; var b = 1; var c = b", "b c a"}, {"var a = c + b; var b = 1; var c = 1", "b c a"}, {"var d = 1; var a = c; var c = 1; var b = 2", "d c a b"},
		{"var a = f(); func f() int { return b }; var b = 1", "b a"}, {"var a = f(); func f() int { return g() }; func g() int { return h() }; func h() int { return b }; var b = 1", "b a"}, {"var a = f(); func f() int { if c > 0 { return f() }; return g() }; func g() int { print(f()); return b }; var b = 1; var c = b", "b c a"},
		{"var a = T(1).m(); type T int; func (t T) m() int { return b }; var b = 1", "b a"}, {"type T int; var x T; var a = x.m(); func (t *T) m() int { return b }; var b = 1", "x b a"}, {"type T struct { U }; type U int; var a = T{}.m(); func (u U) m() int { return b }; var b = 1", "b a"},
		// What an interface's method does is not known: it needs nothing.
		{"type I interface { m() int }; type T int; func (t T) m() int { return b }; var x I = T(1); var a = x.m(); var b = 1", "x a b"},
		{"var a = func() int { return b }; var b = 1", "b a"}, {"var a = func() { b = 1 }; var b int", "b a"}, {"var a = func(b int) int { return b }; var b = 1", "a b"}, {"var a = func() int { b := 2; return b }; var b = 1", "a b"}, {"type T struct { b int }; var a = T{b: 1}; var b = 1", "a b"}, {"type T struct { b int }; var a = T{1}.b; var b = 1", "a b"}, {"type T struct { x int }; var a = T{x: b}; var b = 1", "b a"},
		{"var a = id(b); func id[X any](x X) X { return x }; var b = 1", "b a"}, {"var a = id[int](1); func id[X any](x X) X { b++; return x }; var b = 1", "b a"}, {"var a = &b; var b = 1", "b a"}, {"var a *int = &b; var b = 1", "b a"}, {"var a func() = f; func f() { b++ }; var b = 1", "b a"}, {"var a int; func f() { a = b }; var b = c; var c = 1", "a c b"},
		{"var z = 1; var y = z; var x = y; var w = 1", "z y x w"}, {"const c = 1; var a = c; var b = a", "a b"}, {"var a = b + b + b; var b = 1", "b a"}, {"var a = f() + f(); func f() int { return b + b + g() }; func g() int { return c + f() }; var b = c; var c = 1", "c b a"},
		{"var a = f(); func f() int { return g() }; func g() int { return f() + b }; var b = 1; var c = g()", "b a c"}, {"var e = f(1); func f(x int) int { if x > 0 { return g(x) }; return a }; func g(x int) int { return f(x) + d }; var a = 1; var d = h(); func h() int { return a + g2() }; func g2() int { return 1 }", "a d e"},
	} {
		if got := orderOf(t, alone(row.decls)); got != row.want {
			t.Errorf("P13.1: the order of %s is %s, want %s", row.decls, got, row.want)
		}
	}
	differ(t, "what can't begin", alone,
		pair{"var a = a", "var a = 1"}, pair{"var a int = a", "var a int = 1"}, pair{"var a = b; var b = a", "var a = b; var b = 1"}, pair{"var a = f(); func f() int { return a }", "var a = f(); func f() int { return 1 }"}, pair{"var a = f(); func f() int { return g() }; func g() int { return a }", "var a = f(); func f() int { return 1 }; func g() int { return a }"}, pair{"var a int = b; var b int = c; var c int = a", "var a int = b; var b int = c; var c int"},
		pair{"var a func() = func() { a() }", "var a func(); func f() { a = func() { a() } }"}, pair{"type T int; var a = T(1).m(); func (t T) m() int { return a }", "type I interface { m() int }; type T int; var x I = T(1); var a = x.m(); func (t T) m() int { return a }"}, pair{"var a = &b; var b *int = c; var c = *a", "var a = &b; var b *int; var c = *a"}, pair{"var a = func() { b = 1 }; var b = f(); func f() int { a(); return 1 }", "var a = func() { b = 1 }; var b int; func f() int { a(); return 1 }"},
		pair{"var a int = f(); func f() int { a = 1; return 1 }", "var a int; func f() int { a = 1; return 1 }"}, pair{"type T int; var a = T.m; func (t T) m() {}", "type T int; var a = T(1); func (t T) m() {}"}, pair{"var a = 1; var b = c; var c = b", "var a = 1; var b = a; var c = b"}, pair{"type T struct { U }; type U int; var a = T{}.m(); func (u U) m() int { return a }", "type T struct { U }; type U int; var a = T{}.m(); func (u U) m() int { return 1 }; func (t T) n() int { return a }"})
}

func TestOrderOfFilesAndPackages(t *testing.T) {
	got := orderOf(t, files("main/b.gc", "package main; import \"c\"; var x = y; var y = c.X; func main() {}", "main/a.gc", "package main; var z = x; var w = 1", "b/b.gc", "package b; var X = Y; var Y = 1", "c/c.gc", "package c; import \"b\"; var X = b.X; var y = 1", "a/a.gc", "package a; import \"c\"; var X = c.X"))
	if want := "b.Y b.X c.X c.y a.X w y x z"; got != want {
		t.Errorf("P13.1: the order is %s, want %s", got, want)
	}
	// What stands in another package has begun.
	got = orderOf(t, files("main/b.gc", "package main; import \"b\"; var f = b.F(); func F() int { return g }; var g = f; func main() {}", "b/b.gc", "package b; func F() int { return g }; var f = F(); var g = 1"))
	if want := "b.g b.f f g"; got != want {
		t.Errorf("P13.1: the order is %s, want %s", got, want)
	}
}

// row is the order as the chapter says it, of variables below count and functions from there on; all those that can.
func row(needs map[int][]int, count int) []int {
	var out []int
	begun := map[int]int{}
	ready := func(v int) bool {
		seen := map[int]int{}
		var clear func(x int) bool
		clear = func(x int) bool {
			for _, y := range needs[x] {
				if y < count && begun[y] == 0 {
					return false
				}
				if y >= count && seen[y] == 0 {
					seen[y] = 1
					if !clear(y) {
						return false
					}
				}
			}
			return true
		}
		return clear(v)
	}
	for {
		next := -1
		for v := range count {
			if begun[v] == 0 && ready(v) {
				next = v
				break
			}
		}
		if next < 0 {
			return out
		}
		begun[next] = 1
		out = append(out, next)
	}
}

func TestOrderByChance(t *testing.T) {
	random := rand.New(rand.NewPCG(13, 1))
	all := 0
	for range 30000 {
		vars, functions := 1+random.IntN(6), random.IntN(7)
		needs := map[int][]int{}
		for x := range vars + functions {
			needs[x] = nil
			for range random.IntN(3) {
				y := random.IntN(vars + functions)
				if x < vars && y <= x && random.IntN(3) > 0 {
					continue
				}
				needs[x] = append(needs[x], y)
			}
		}
		got, want := check.Begin(needs, func(x int) bool { return x < vars }), row(needs, vars)
		if !slices.Equal(got, want) {
			t.Fatalf("P13.1: of %d variables %v begin %v, want %v", vars, needs, got, want)
		}
		if len(got) == vars {
			all++
		}
	}
	if all < 3000 || all > 27000 {
		t.Errorf("%d of 30000 can begin: that is not much of a test", all)
	}
}

// The same of sources: each variable and function needs what stands in it.
func TestOrderOfSources(t *testing.T) {
	random := rand.New(rand.NewPCG(13, 2))
	rights := 0
	for range 3000 {
		vars, functions := 1+random.IntN(5), random.IntN(5)
		needs := map[int][]int{}
		decls := make([]string, vars+functions)
		for x := range vars + functions {
			parts := []string{"1"}
			for range random.IntN(3) {
				y := random.IntN(vars + functions)
				if x < vars && y <= x && random.IntN(3) > 0 {
					continue
				}
				needs[x] = append(needs[x], y)
				name := fmt.Sprintf("x%d", y)
				if y >= vars {
					name = fmt.Sprintf([]string{"x%d()", "T(1).x%d()", "func() int { return x%d() }()", "func(t *T) int { return t.x%d() }(nil)"}[y%2+2*random.IntN(2)], y)
				}
				parts = append(parts, name)
			}
			sum := strings.Join(parts, " + ")
			switch {
			case x < vars:
				decls[x] = fmt.Sprintf("var x%d int = %s", x, sum)
			case x%2 == 0:
				decls[x] = fmt.Sprintf("func x%d() int { return %s }", x, sum)
			default:
				decls[x] = fmt.Sprintf("func (t T) x%d() int { return %s }", x, sum)
			}
		}
		want := row(needs, vars)
		l := alone("type T int; " + strings.Join(decls, "; "))
		m, fault := module.Load(l)
		if fault.Code != 0 {
			t.Fatal(fault)
		}
		r, fault := check.Module(m, nil)
		if right := fault.Code == 0; right != (len(want) == vars) {
			t.Fatalf("P13.1: Module is %v of %s", fault, l[0].Text)
		} else if right {
			rights++
			var got []int
			for _, number := range r.Order {
				var x int
				fmt.Sscanf(r.Info.Objects[number].Name, "x%d", &x)
				got = append(got, x)
			}
			if !slices.Equal(got, want) {
				t.Fatalf("P13.1: the order is %v, want %v, of %s", got, want, l[0].Text)
			}
		}
	}
	if rights < 300 || rights > 2700 {
		t.Errorf("%d of 3000 are right: that is not much of a test", rights)
	}
}
