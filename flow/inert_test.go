package flow_test

import (
	"testing"

	"recast/api"
	"recast/flow"
	"recast/tree"
)

// What is inert, and next to it what is not.
func TestInert(t *testing.T) {
	for text, want := range map[string]bool{
		// Identifiers.
		"x": true, "m": true, "s": true, "q": true, "a": true, "v": true, "p": true, "i": true, "c": true, "k": true, "be": true,
		"y": false, "ys": false, "z": false, "zs": false, "zf": true, "zp": true,
		"C": true, "true": true, "false": true, "g": true, "h": true, "many": true,
		"b.C": true, "b.D": true, "b.W": false, "b.F": false,
		// Constants, and what has the same form.
		"1": true, "\"a\"": true, "1 / 2": true, "1 % 2": true, "C / 2": true, "\"a\" + \"b\"": true, "b.D + \"x\"": true, "len(\"abc\")": true, "len(b.D)": true,
		"int(5)": true, "N(5)": true, "string(\"a\")": true, "S(\"a\")": true, "bool(true)": true, "N(C) / 2": true, "(C)": true, "-C": true, "!true": true, "(N)(5)": true,
		"1 < 2": true, "\"a\" < b.D": true, "len(s)": false, "int(x)": false, "int(m)": false, "N(x)": false, "S(s)": false, "any(1)": false,
		// Parens.
		"(x)": true, "((x))": true, "(y)": false, "(g())": false, "((x / 2))": false, "(g)": true, "(b.C)": true,
		// Unary signs.
		"-x": true, "-m": true, "- -x": true, "!q": true, "!!q": true, "-y": false, "-g()": false, "!(x == y)": false, "&x2": false, "*p": false, "<-c": false, "&T{}": false, "*&v": false,
		// Binary signs.
		"x + 1": true, "1 + x": true, "x - x2": true, "x * x - 3": true, "m + 1": true, "m * m": true, "x / 2": false, "x % 2": false, "x / C": false, "m / 1": false, "1 / x": false, "s + s": false, "s + \"a\"": false, "w + w": false, "\"a\" + s": false,
		"x + y": false, "y + x": false, "x + g()": false, "g() + x": false, "x * (x / 2)": false, "x + len(s)": false,
		// What is compared.
		"x == 1": true, "1 == x": true, "x != x2": true, "x < 1": true, "x <= 1": true, "x > 1": true, "x >= 1": true, "m < m": true, "m == 1": true, "s == \"a\"": true, "s != s": true, "s < s": true, "s <= s": true, "s > s": true, "s >= s": true, "w == w": true, "w < \"a\"": true,
		"q == true": true, "q == q": true, "q != (x == 1)": true, "x == 1 == q": true,
		"p == nil": false, "nil == p": false, "p == p": false, "i == nil": false, "i == i": false, "i == 1": false, "1 == i": false, "i == x": false, "x == i": false, "e == nil": false, "be == be": false, "c == c": false, "k == nil": false, "a == nil": false, "i == s": false, "i == q": false,
		"x == y": false, "y == x": false, "s == D2": false,
		"q && q": true, "q || q": true, "q && x > 1 || !q": true, "q && y > 1": false, "q || g() > 1": false, "g() > 1 || q": false, "q && x / 2 > 1": false,
		// All others.
		"g()": false, "h(1)": false, "b.F()": false, "k()": false, "gen(1)": false, "a[0]": false, "s[0]": false, "v.f": false, "p.f": false, "be.X": false, "v.V()": false, "p.M(1)": false, "i.(int)": false, "T{}": false, "[]int{}": false, "[]int{1}": false, "func() {}": false, "func() int { return 1 }": false,
		"len(a)": false, "append(a, 1)": false, "make([]int, 1)": false, "new(int)": false, "read()": false, "recover()": false, "len([]int{})": false, "gen(x)": false, "I(p)": false, "(*T)(p)": false, "R(p)": false,
	} {
		stmt := "_ = " + text
		if text == "s == D2" { // a string that is shared
			stmt = "D2 := s; _ = func() string { return D2 }; _ = " + text
		}
		s, block := body(t, stmt)
		e := last(last(block)).Kids[0]
		if got := flow.Inert(s.Result, s.path, s.shared(), e); got != want || s.said(e) != text {
			t.Errorf("P15.2: Inert of %s is %v", s.said(e), got)
		}
	}
}

// nil alone is given to what may take it.
func TestInertNil(t *testing.T) {
	s, block := body(t, "p = nil; p = (nil)")
	for _, stmt := range block.Kids {
		if e := last(stmt).Kids[0]; !flow.Inert(s.Result, s.path, nil, e) {
			t.Errorf("P15.2: Inert of %s is false", s.said(e))
		}
	}
	// Names of the universe may mean something else.
	s = checked(t, "main/a.gc", "package main; func main() { nil := T{}; true := nil.f; false := func() int { return true }; _ = nil; _ = true; _ = false }; type T struct { f int }")
	for i, want := range []bool{true, false, true} {
		stmt := s.block(t, "main").Kids[3+i]
		if got := flow.Inert(s.Result, s.path, s.shared(), last(stmt).Kids[0]); got != want {
			t.Errorf("P15.2: Inert in %s is %v", s.said(stmt), got)
		}
	}
}

// In generic functions nothing is an int that is of a type parameter.
func TestInertOfTypeParameters(t *testing.T) {
	for text, want := range map[string]bool{"a": true, "m": true, "a + a": false, "a * a": false, "a - a": false, "m + m": false, "a < a": false, "m < m": false, "a == a": false, "q && q": true, "!q": true, "(a)": true} {
		s := checked(t, "main/a.gc", head+"_ = "+text+"}\nvar _z = b.W; func main() {}", "b/b.gc", beside)
		e := last(last(s.block(t, "sum"))).Kids[0]
		if got := flow.Inert(s.Result, s.path, s.shared(), e); got != want {
			t.Errorf("P15.2: Inert of %s is %v", s.said(e), got)
		}
	}
}

// Just what is handed in says what is shared, but that variables of packages always are.
func TestInertByShared(t *testing.T) {
	s, block := body(t, "_ = x; _ = y; _ = z; _ = x + x2; _ = b.W; _ = C")
	number := func(name string) int {
		for i, o := range s.Info.Objects {
			if o.Name == name && o.Kind == api.ObjVar {
				return i
			}
		}
		t.Fatalf("there is no %s", name)
		return 0
	}
	x, x2, z := number("x"), number("x2"), number("z")
	for _, c := range []struct {
		shared []int
		want   string
	}{
		{nil, "x z x + x2 C "}, {[]int{}, "x z x + x2 C "}, {[]int{x}, "z C "}, {[]int{x2}, "x z C "}, {[]int{z}, "x x + x2 C "},
		{[]int{z, x2, z}, "x C "}, {[]int{z, x2, x, -1, 1 << 62, -1 << 63}, "C "}, {[]int{-1, -2, 1 << 62}, "x z x + x2 C "},
	} {
		got := ""
		for _, stmt := range block.Kids {
			if e := last(stmt).Kids[0]; flow.Inert(s.Result, s.path, c.shared, e) {
				got += s.said(e) + " "
			}
		}
		if got != c.want {
			t.Errorf("P15.2: with %v shared those are Inert: %s, not %s", c.shared, got, c.want)
		}
	}
}

// What is no expression, and what is none that may be evaluated, is not inert.
func TestInertOfNothing(t *testing.T) {
	s, block := body(t, "_ = T{f: x}; _ = make([]int, x); _ = gen(x); _ = len(a); _ = N(x); _ = be.X; _ = b.C; _ = []T{}; x++; return; { x = 1 }; if q {}; _ = (*T)(p); _ = gen[int](x); _ = \"t\"")
	inert := map[string]int{}
	for _, x := range tree.All(block) {
		if flow.Inert(s.Result, s.path, s.shared(), x) {
			inert[s.said(x)]++
		}
		if flow.Inert(s.Result, "main/b.gc", s.shared(), x) != (x.Kind == api.NodeInt || x.Kind == api.NodeStr) {
			t.Errorf("P15.2: Inert of %s, in a file that there is not", s.said(x))
		}
	}
	want := map[string]int{"x": 7, "a": 1, "1": 1, "q": 1, "be": 1, "b.C": 1, "C": 1, "p": 1, "gen": 2, `"t"`: 1}
	for text := range inert {
		if inert[text] != want[text] {
			t.Errorf("P15.2: %d times %s is Inert", inert[text], text)
		}
	}
	for text := range want {
		if inert[text] != want[text] {
			t.Errorf("P15.2: %d times %s is Inert", inert[text], text)
		}
	}
	if flow.Inert(s.Result, s.path, nil, api.Node{}) {
		t.Error("P15.2: nothing is Inert")
	}
}
