package check_test

import (
	"slices"
	"strings"
	"testing"

	"recast/api"
	"recast/check"
	"recast/module"
	"recast/parse"
	"recast/scan"
)

// right tells whether a module is right.
func right(t *testing.T, l []api.File) bool {
	t.Helper()
	_, fault := check.Module(loaded(t, l), nil)
	return fault.Code == 0
}

// wholes is the nodes of a tree that are whole expressions: that stand where the grammar has an EXPR as such, but for
// what two values are taken from.
func wholes(n api.Node) []api.Node {
	var out []api.Node
	add := func(list ...api.Node) {
		for _, x := range list {
			if x.Kind >= api.NodeIdent && x.Kind <= api.NodeBinary && x.Kind != api.NodeKeyed {
				out = append(out, x)
			}
		}
	}
	switch n.Kind {
	case api.NodeVar, api.NodeConst:
		add(n.Kids[2])
	case api.NodeExprStmt, api.NodeIncDec, api.NodeReturn, api.NodeSend:
		add(n.Kids...)
	case api.NodeIf, api.NodeFor:
		add(n.Kids[1])
	case api.NodeRange:
		add(n.Kids[2])
	case api.NodeSwitch:
		add(n.Kids[0])
	case api.NodeCase:
		add(n.Kids[0].Kids...)
	case api.NodeAssign, api.NodeDefine:
		left, right := n.Kids[0].Kids, n.Kids[1].Kids
		if n.Kind == api.NodeAssign && left[0].Text != "_" {
			add(left...)
		}
		if two := right[0]; len(left) == 1 || len(right) > 1 || two.Kind == api.NodeCall {
			add(right...)
		}
	case api.NodeComposite, api.NodeCall:
		for _, k := range n.Kids[1:] {
			add(k)
		}
	case api.NodeKeyed:
		add(n.Kids[1])
	case api.NodeParen:
		add(n.Kids[0])
	}
	for _, k := range n.Kids {
		out = append(out, wholes(k)...)
	}
	return out
}

// sources is modules, right ones and wrong ones, of which each is one file.
func sources() []string {
	var out []string
	for _, s := range []string{
		"x := 1; print(x)", "x := 1; print(x + s)", "i, s = pair()", "s, i = pair()", "none()", "<-c", "len(s)", "if i > 0 { return }", "if i { return }", "for i < 3 { i++ }", "for range 3 {}", "for range p {}", "switch i { case 1, j: }", "switch i { case s: }", "c <- 1", "c <- s", "a[0] = i", "k = i",
		"t.x++", "s++", "_ = T{x: 1, n: p}", "_ = T{x: p}", "_ = []int{1, i}", "_ = []int{1, s}", "_ = append(a, 1, 2)", "_ = append(a, a...)", "_ = make([]int, 3)", "_ = make([]int, -1)", "_ = new(int)", "_ = id(1) + id[int](2)", "e = nil", "i = nil", "var x I = u; x.m()", "var x J = u; _ = x", "const x = 1 + 2; _ = x", "const x = 1 / 0",
		"panic(1)", "p = &t", "p = &T{}", "p = &(T{})", "i = 1 - -1", "b = !b && i == j", "print(big)", "_ = big", "f = func(x int) int { return x }", "f = func(x int) int { panic(x) }", "f = func(x int) int { one() }", "recover()", "_ = M(1)", "_ = (*T)(nil)", "i += 2 * j", "i /= 0", "s += s[0]", "i += int(s[0])",
	} {
		out = append(out, inMain(s)[0].Text)
	}
	return append(out, "package main; func f() (int, int) { return f() }; func main() { return }", "package main; func f() int { panic(1) }; func main() {}", "package main; func f() int { print(1) }; func main() {}")
}

// brackets around a whole expression make no difference.
func TestBrackets(t *testing.T) {
	count := 0
	try := func(l []api.File, i int) {
		t.Helper()
		n, fault := parse.File(l[i].Text)
		if fault.Code != 0 {
			t.Fatalf("%q: %v", l[i].Text, fault)
		}
		want := right(t, l)
		for _, x := range wholes(n) {
			text := l[i].Text
			with := slices.Clone(l)
			with[i].Text = text[:x.From] + "(" + text[x.From:x.To] + ")" + text[x.To:]
			m, fault := module.Load(with)
			if fault.Code != 0 {
				continue // a type that begins as no expression does
			}
			if _, fault := check.Module(m, nil); (fault.Code == 0) != want {
				why, _ := check.Reason(m, nil)
				t.Errorf("P13.5: with brackets around %q Module is %v (%s), without %v, of %.300s", text[x.From:x.To], fault, why, want, shownFiles(l[i:i+1]))
			}
			count++
		}
	}
	for _, s := range sources() {
		try(files("main/a.gc", s), 0)
	}
	for i := range great() {
		try(great(), i)
	}
	if count < 300 {
		t.Errorf("there are %d expressions: that is not much of a test", count)
	}
}

// Nor do places of blanks and remarks.
func TestBlanks(t *testing.T) {
	for _, s := range append(sources(), great()[0].Text) {
		l := files("main/a.gc", s)
		if strings.HasPrefix(s, "package b") {
			l = files("b/b.gc", s, "main/a.gc", "package main; import \"b\"; func main() { b.V++ }")
		}
		tokens, _ := scan.Tokens(s)
		var wide strings.Builder
		at := 0
		for _, token := range tokens {
			// A line's end stays where it is.
			if between := s[at:token.From]; strings.Contains(between, "\n") {
				wide.WriteString(between)
			} else {
				wide.WriteString("  /* ) */\t")
			}
			wide.WriteString(s[token.From:token.To])
			at = token.To
		}
		with := slices.Clone(l)
		with[0].Text = wide.String() + "\n// the end"
		if right(t, with) != right(t, l) {
			t.Errorf("P13.5: with blanks Module is %v of %q", right(t, with), with[0].Text)
		}
	}
}

// Nor does the order of files, in which they are handed in and in which their paths come.
func TestOrderOfFiles(t *testing.T) {
	l := great()
	want := shown(check.Module(loaded(t, l), nil))
	for range 3 {
		l = append(l[1:], l[0])
		if got := shown(check.Module(loaded(t, l), nil)); got != want {
			t.Errorf("P13.5: Module is %s, want %s", got, want)
		}
		reversed := slices.Clone(l)
		slices.Reverse(reversed)
		if got := shown(check.Module(loaded(t, reversed), nil)); got != want {
			t.Errorf("P13.5: Module is %s, want %s", got, want)
		}
	}
	for _, paths := range [][]string{{"main/x.gc", "main/a.gc"}, {"main/a.gc", "main/x.gc"}} {
		l := files(paths[0], "package main; var a = b + c; var c = f(); func (t T) m() {}; type U struct { T; x int }; const k = d", paths[1], "package main; var b = c; func f() int { return k }; type T int; const d = 1; func main() { U{}.m() }")
		if !right(t, l) {
			t.Errorf("P13.5: Module is not right with %q", paths)
		}
		l[0].Text += "; const e int = \"a\""
		if right(t, l) {
			t.Errorf("P13.5: Module is right with %q", paths)
		}
	}
}
