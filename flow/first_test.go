package flow_test

import (
	"strings"
	"testing"

	"recast/api"
	"recast/flow"
	"recast/tree"
)

// firsts is the texts of all those expressions within a statement of which First is true.
func firsts(s source, stmt api.Node) string {
	var out []string
	for _, e := range tree.All(stmt) {
		if flow.First(s.Result, s.path, s.shared(), stmt, e) {
			out = append(out, s.said(e))
		}
	}
	return strings.Join(out, " | ")
}

// Which expressions come first in a statement: all of them, in the order of the tree.
func TestFirst(t *testing.T) {
	for stmt, want := range map[string]string{
		// The document's examples.
		"a[x] = g() + h(1)":       "a | x | g() + h(1) | g()",
		"if x > 0 && g() > 0 { }": "x > 0 && g() > 0 | x > 0 | x | 0",

		// Statements.
		"g()":                             "g()",
		"<-c":                             "<-c | c",
		"c <- x":                          "c | x",
		"c <- g()":                        "c | g()",
		"many(g(), g())":                  "many(g(), g()) | g()",
		"x = g()":                         "g()",
		"x = x2":                          "x2",
		"y = g()":                         "g()",
		"z = x":                           "x",
		"_ = g()":                         "g()",
		"b.W = g()":                       "g()",
		"v.f = g()":                       "v | g()",
		"zs.f = g()":                      "zs",
		"v.U.h = g()":                     "v.U | v",
		"v.h = g()":                       "v | g()",
		"p.f = g()":                       "p | g()",
		"p.n.f = g()":                     "p.n | p",
		"be.X = g()":                      "be | g()",
		"*p = T{f: g()}":                  "p | T{f: g()} | g()",
		"**pp = T{f: g()}":                "*pp | pp",
		"*(p) = v":                        "(p) | p | v",
		"a[0] = g()":                      "a | 0 | g()",
		"a[y] = g()":                      "a | y",
		"ys[0] = g()":                     "ys",
		"a[g()] = h(2)":                   "a | g()",
		"v.a[x] = h(2)":                   "v.a | v",
		"x, a[0] = g(), h(3)":             "a | 0 | g()",
		"x, x2 = g(), h(3)":               "g()",
		"x, x2 = x, h(x)":                 "x | h(x) | x",
		"x, x2 = two()":                   "two()",
		"a[x], v.f = x2, x":               "a | x | v | x2 | x",
		"a[y], v.f = x2, x":               "a | y",
		"v.f, a[y] = x2, x":               "v | a | y",
		"x += g()":                        "x | g()",
		"y += g()":                        "y",
		"x -= x2":                         "x | x2",
		"v.f += g()":                      "v.f | v",
		"a[0] *= g()":                     "a[0] | a | 0",
		"*p.M(1).M(x) = v":                "p.M(1).M(x) | p.M(1) | p | 1",
		"x++":                             "x",
		"y--":                             "y",
		"a[x]++":                          "a[x] | a | x",
		"v.f--":                           "v.f | v",
		"d := g(); _ = d":                 "g()",
		"d, x := g(), h(1); _ = d; _ = x": "g()",
		"d, x := x, h(1); _ = d; _ = x":   "x | h(1) | 1",
		"d, ok := i.(int); _ = d; _ = ok": "i.(int) | i",
		"d, ok := <-c; _ = d; _ = ok":     "<-c | c",
		"var d = g(); _ = d":              "g()",
		"var d int = g(); _ = d":          "g()",
		"var d int; _ = d":                "",
		"var d N = m; _ = d":              "m",
		"const d = 1; _ = d":              "",
		"go g()":                          "",
		"go h(g())":                       "g()",
		"go k()":                          "k",
		"go p.M(g())":                     "p | g()",
		"go func() { g() }()":             "func() { g() }",
		"defer h(g())":                    "g()",
		"defer h(h(g()))":                 "h(g()) | g()",
		"defer many(x, g(), y)":           "x | g()",
		"defer ks[x]()":                   "ks[x] | ks | x",
		"defer v.k()":                     "v.k | v",
		"return":                          "",
		"if g() > 0 { h(1) }":             "g() > 0 | g()",
		"if q { h(1) } else { h(2) }":     "q",
		"if q { } else if g() > 0 { }":    "q",
		"if d := g(); d > 0 { }":          "",
		"if g(); g() > 0 { }":             "",
		"for g() > 0 { break }":           "",
		"for { break }":                   "",
		"for d := g(); d < g(); d++ { }":  "",
		"for range g() { h(x) }":          "g()",
		"for range x { }":                 "x",
		"for d := range append(a, g()) { _ = d }":                        "append(a, g()) | a | g()",
		"for _, d := range a { _ = d }":                                  "a",
		"switch g() { case h(4): h(5); case x: }":                        "g()",
		"switch x { case 1: }":                                           "x",
		"select { case c <- g(): h(2); case d := <-c: _ = d; default: }": "",
		"select { }":  "",
		"{ g() }":     "",
		"{ x = g() }": "",

		// What is called.
		"_ = k() + g()":                         "k() + g() | k() | k",
		"_ = zf() + g()":                        "zf() + g() | zf() | zf",
		"_ = b.F() + g()":                       "b.F() + g() | b.F()",
		"_ = h(b.F())":                          "h(b.F()) | b.F()",
		"_ = ks[x](  )":                         "ks[x](  ) | ks[x] | ks | x",
		"_ = (g)()":                             "(g)() | (g) | g",
		"_ = (k)()":                             "(k)() | (k) | k",
		"_ = p.M(1)":                            "p.M(1) | p | 1",
		"_ = e.M(x)":                            "e.M(x) | e | x",
		"_ = e.M(g()).M(2)":                     "e.M(g()).M(2) | e.M(g()) | e | g()",
		"_ = v.V() + g()":                       "v.V() + g() | v.V() | v",
		"_ = (v).V() + g()":                     "(v).V() + g() | (v).V() | (v) | v",
		"_ = (*p).V()":                          "(*p).V() | (*p) | *p | p",
		"_ = T{f: x}.V()":                       "T{f: x}.V() | T{f: x} | x",
		"_ = v.Q()":                             "v.Q() | v",
		"_ = zs.U.Q() + x":                      "zs.U.Q() + x | zs.U.Q() | zs.U | zs",
		"_ = v.k()":                             "v.k() | v.k | v",
		"_ = p.k()":                             "p.k() | p.k | p",
		"_ = p.n.k()":                           "p.n.k() | p.n.k | p.n | p",
		"_ = gen(g())":                          "gen(g()) | g()",
		"_ = gen[int](g())":                     "gen[int](g()) | g()",
		"_ = gen[[]N](nil)":                     "gen[[]N](nil) | nil",
		"_ = int(g())":                          "int(g()) | g()",
		"_ = N(m)":                              "N(m) | m",
		"_ = (N)(g())":                          "(N)(g()) | g()",
		"_ = (*T)(p)":                           "(*T)(p) | p",
		"_ = I(p)":                              "I(p) | p",
		"_ = b.E(be)":                           "b.E(be) | be",
		"_ = (*b.E)(nil)":                       "(*b.E)(nil) | nil",
		"_ = func() int { return g() }":         "func() int { return g() }",
		"_ = func() int { return g() }() + g()": "func() int { return g() }() + g() | func() int { return g() }() | func() int { return g() }",
		"_ = func(l int) int { return l }(g())": "func(l int) int { return l }(g()) | func(l int) int { return l }",
		"_ = len(append(a, x, g(), y))":         "len(append(a, x, g(), y)) | append(a, x, g(), y) | a | x | g()",
		"_ = make([]int, g())":                  "make([]int, g()) | g()",
		"_ = make(chan T, g())":                 "make(chan T, g()) | g()",
		"_ = new(T)":                            "new(T)",
		"_ = h(len(s) + g())":                   "h(len(s) + g()) | len(s) + g() | len(s) | s",
		"print(x, g(), h(1))":                   "print(x, g(), h(1)) | x | g()",
		"print(y, g())":                         "print(y, g()) | y",
		"print(z, g())":                         "print(z, g()) | z",
		"print(C, g(), nil == p)":               "print(C, g(), nil == p) | C | g()",
		"print(b.C, b.W, g())":                  "print(b.C, b.W, g()) | b.C | b.W",
		"many(a...)":                            "many(a...) | a",
		"many()":                                "many()",
		"panic(i)":                              "panic(i) | i",
		"close(c)":                              "close(c) | c",

		// Other expressions.
		"_ = x + g()":                        "x + g() | x | g()",
		"_ = x / 2 + g()":                    "x / 2 + g() | x / 2 | x | 2",
		"_ = 1 / 2 + g()":                    "1 / 2 + g() | 1 / 2 | 1 | 2 | g()",
		"_ = h(x) + x":                       "h(x) + x | h(x) | x",
		"_ = x * x2 - -h(x)":                 "x * x2 - -h(x) | x * x2 | x | x2 | -h(x) | h(x) | x",
		"_ = x == x2 == (g() == 1)":          "x == x2 == (g() == 1) | x == x2 | x | x2 | (g() == 1) | g() == 1 | g()",
		"_ = p == nil == (g() == 1)":         "p == nil == (g() == 1) | p == nil | p | nil",
		"_ = q && g() > 0":                   "q && g() > 0 | q",
		"_ = q || g() > 0 && q":              "q || g() > 0 && q | q",
		"_ = g() > 0 || q":                   "g() > 0 || q | g() > 0 | g()",
		"_ = (q && q) == (g() == 1)":         "(q && q) == (g() == 1) | (q && q) | q && q | q | (g() == 1) | g() == 1 | g()",
		"_ = (q && x / 2 > 1) == (g() == 1)": "(q && x / 2 > 1) == (g() == 1) | (q && x / 2 > 1) | q && x / 2 > 1 | q",
		"_ = (q || y > 1) == (g() == 1)":     "(q || y > 1) == (g() == 1) | (q || y > 1) | q || y > 1 | q",
		"_ = !(g() == x)":                    "!(g() == x) | (g() == x) | g() == x | g()",
		"_ = a[g()] + x":                     "a[g()] + x | a[g()] | a | g()",
		"_ = a[x] + x2":                      "a[x] + x2 | a[x] | a | x",
		"_ = s[x] + x2":                      "s[x] + x2 | s[x] | s | x",
		"_ = v.f + g()":                      "v.f + g() | v.f | v",
		"_ = v.U.h":                          "v.U.h | v.U | v",
		"_ = &v.f":                           "&v.f | v.f | v",
		"_ = &x2":                            "&x2 | x2",
		"_ = &T{f: g()}":                     "&T{f: g()} | T{f: g()} | g()",
		"_ = *p":                             "*p | p",
		"_ = i.(T)":                          "i.(T) | i",
		"_ = i.(N) + N(g())":                 "i.(N) + N(g()) | i.(N) | i",
		"_ = T{f: g(), k: k}":                "T{f: g(), k: k} | g()",
		"_ = T{f: x, k: k}":                  "T{f: x, k: k} | x | k",
		"_ = b.E{x}":                         "b.E{x} | x",
		"_ = []int{x, g(), x2}":              "[]int{x, g(), x2} | x | g()",
		"_ = []T{T{}, T{f: x}}":              "[]T{T{}, T{f: x}} | T{}",
		"_ = b.C + b.W + x":                  "b.C + b.W + x | b.C + b.W | b.C | b.W",
		"_ = \"a\" + s + s":                  "\"a\" + s + s | \"a\" + s | \"a\" | s",
		"_ = ((x + g()))":                    "((x + g())) | (x + g()) | x + g() | x | g()",
		"x = read() + x":                     "read() + x | read()",
		"x = 1":                              "1",
	} {
		s, block := body(t, stmt)
		if got := firsts(s, block.Kids[0]); got != want {
			t.Errorf("P15.3: in %s those are First: %s\nwant %s", stmt, got, want)
		}
	}
}

// What is within Parens that are assigned to is evaluated perhaps: it stands in the way, but is not First.
func TestFirstOfParens(t *testing.T) {
	for stmt, want := range map[string]string{
		"(x) = g()":       "g()",
		"((y)) = g()":     "g()",
		"(a[x]) = g()":    "g()",
		"(a[y]) = g()":    "",
		"(a[g()]) = h(x)": "",
		"(p.f) = h(x)":    "h(x) | x",
		"(p.n.f) = h(x)":  "",
		"(*p.n) = v":      "",
		"(x) += g()":      "(x) | x | g()",
		"(a[x]) += g()":   "(a[x]) | a[x] | a | x",
		"(a[x])++":        "(a[x]) | a[x] | a | x",
		"a[(g())] = x":    "a | (g()) | g()",
		"(v).f = g()":     "(v) | v | g()",
	} {
		s, block := body(t, stmt)
		if got := firsts(s, block.Kids[0]); got != want {
			t.Errorf("P15.3: in %s those are First: %s\nwant %s", stmt, got, want)
		}
	}
}

// What the first object of a module is says nothing of what stands for none.
func TestFirstOfFirstObject(t *testing.T) {
	for text, want := range map[string]string{
		"package main; func f() int { (f)(); return 1 }; func main() {}":                      "(f)() | (f) | f",
		"package main; func f() func() { f()(); return nil }; func main() {}":                 "f()() | f()",
		"package main; import \"z\"; func f() *z.Z { f().X = 1; return nil }; func main() {}": "f()",
	} {
		s := checked(t, "main/a.gc", text, "z/z.gc", "package z; type Z struct { X int }")
		if got := firsts(s, s.block(t, "f").Kids[0]); got != want {
			t.Errorf("P15.3: of %s those are First: %s, want %s", text, got, want)
		}
	}
}

// A Return has a function of its own.
func TestFirstOfReturn(t *testing.T) {
	for results, want := range map[string]string{
		"x, g(), h(1)": "x | g()",
		"g(), x, x":    "g()",
		"x, y, x":      "x | y",
		"x, x, x":      "x | x | x",
	} {
		s := checked(t, "main/a.gc", head+"}\nfunc three(x int) (int, int, int) { return "+results+" }; func main() {}; var _b = b.W", "b/b.gc", beside)
		if got := firsts(s, s.block(t, "three").Kids[0]); got != want {
			t.Errorf("P15.3: of %s those are First: %s, want %s", results, got, want)
		}
	}
}

// A Var of a package is a statement like one of a function.
func TestFirstOfVars(t *testing.T) {
	s := checked(t, "main/a.gc", "package main; var y = 1; var z int = y + g() + f(); func g() int { return C }; func f() int { return 1 }; const C = 1; func main() {}")
	want := []string{"1", "y + g() + f() | y + g() | y"}
	for i, stmt := range tree.Kids(s.tree, api.NodeVar) {
		if got := firsts(s, stmt); got != want[i] {
			t.Errorf("P15.3: in %s those are First: %s, want %s", s.said(stmt), got, want[i])
		}
	}
	for _, x := range s.tree.Kids {
		if got := firsts(s, x); x.Kind != api.NodeVar && got != "" {
			t.Errorf("P15.3: in %s those are First: %s", s.said(x), got)
		}
	}
	if got := firsts(s, s.tree); got != "" {
		t.Errorf("P15.3: in a file those are First: %s", got)
	}
}

// Just what is handed in says what is shared, but that variables of packages always are.
func TestFirstByShared(t *testing.T) {
	s, block := body(t, "print(x, z, y, x2); print(x2, x, z)")
	number := func(name string) int {
		for i, o := range s.Info.Objects {
			if o.Name == name && o.Path == "main/a.gc" && o.Level == 1 && o.Kind == api.ObjVar {
				return i
			}
		}
		t.Fatalf("there is no %s", name)
		return 0
	}
	for _, c := range []struct {
		shared []int
		want   string
	}{
		{nil, "x z y x2 x z "}, {[]int{number("z")}, "x z x2 x z "}, {[]int{number("z"), number("x")}, "x x2 x "}, {[]int{number("x2"), -1, 1 << 62}, "x z y x2 "},
	} {
		got := ""
		for _, stmt := range block.Kids {
			for _, e := range stmt.Kids[0].Kids[1:] {
				if flow.First(s.Result, s.path, c.shared, stmt, e) {
					got += s.said(e) + " "
				}
			}
		}
		if got != c.want {
			t.Errorf("P15.3: with %v shared those are First: %s, want %s", c.shared, got, c.want)
		}
	}
}

// What is not in a statement, or like what is in it, but not the same, is not First there.
func TestFirstElsewhere(t *testing.T) {
	s, block := body(t, "a[x] = g(); x = g(); g(); return; x = x")
	first := func(stmt, e api.Node) bool { return flow.First(s.Result, s.path, s.shared(), stmt, e) }
	e := last(block.Kids[0]).Kids[0]
	if !first(block.Kids[0], e) || first(block.Kids[1], e) || first(block.Kids[2], e) || first(block, e) || first(e, e) || first(last(block.Kids[0]), e) || first(api.Node{}, e) {
		t.Error("P15.3: g() is First elsewhere")
	}
	for _, turn := range []func(e *api.Node){
		func(e *api.Node) { e.From++ }, func(e *api.Node) { e.From-- }, func(e *api.Node) { e.To++ }, func(e *api.Node) { e.To-- },
		func(e *api.Node) { e.Kind = api.NodeParen }, func(e *api.Node) { e.Text = "..." }, func(e *api.Node) { e.Kids = nil }, func(e *api.Node) { *e = api.Node{} },
		func(e *api.Node) { e.Kind = api.NodeExprStmt },
	} {
		other := e
		if turn(&other); first(block.Kids[0], other) {
			t.Errorf("P15.3: %v is First", other)
		}
	}
	if first(block.Kids[2], block.Kids[2]) || first(block.Kids[3], block.Kids[3]) || first(block.Kids[3], api.Node{}) {
		t.Error("P15.3: a statement is First")
	}
	if left := block.Kids[4].Kids[0].Kids[0]; first(block.Kids[4], left) {
		t.Error("P15.3: what is assigned to is First")
	}
}
