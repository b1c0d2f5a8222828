package scope_test

import (
	"fmt"
	"math/rand/v2"
	"slices"
	"strings"
	"testing"

	"recast/api"
	"recast/scan"
	"recast/scope"
	"recast/tree"
)

// held holds Bind against the second reading; false, if the files do not load.
func held(t *testing.T, l []api.File) (ok, loads bool) {
	t.Helper()
	m, pkgs, loads := loaded(l)
	if !loads {
		return false, false
	}
	objs, uses, ok := scope.Bind(m, pkgs)
	wantObjs, wantUses, want := readAgain(m, pkgs)
	if got, again := shown(objs, uses, ok), shown(wantObjs, wantUses, want); got != again {
		t.Fatalf("P12: Bind of %q is\n%s\nwant\n%s", l, got, again)
	}
	if !ok {
		return false, true
	}
	if !placed(l, objs) {
		t.Fatalf("P12.5: the objects of %q are %v", l, objs)
	}
	for _, path := range m.Paths() {
		n, _ := m.Tree(path)
		eachOne(t, path, n, uses)
	}
	return true, true
}

// eachOne wants every identifier of a file that the chapter says it of to have one use.
func eachOne(t *testing.T, path string, n api.Node, uses []api.Use) {
	t.Helper()
	count := map[int]int{}
	for _, u := range uses {
		if u.Path == path {
			count[u.At]++
		}
	}
	spared := map[int]int{n.Kids[0].From: 1} // the package's name, too
	for _, x := range tree.All(n) {
		if x.Kind == api.NodeSelector {
			spared[x.Kids[1].From]++
		}
		if x.Kind == api.NodeKeyed {
			spared[x.Kids[0].From]++
		}
	}
	for _, x := range tree.Idents(n) {
		if got := count[x.From]; got > 1 || got == 1 && x.Text == "_" || got == 0 && x.Text != "_" && spared[x.From] == 0 {
			t.Errorf("P12.6: %s at %d of %s has %d uses", x.Text, x.From, path, got)
		}
	}
}

// great is a module with nearly everything in it, a statement or declaration a line.
func great() []api.File {
	return files("main/a.gc", `package main
import "b"
import "c"
var x = y
const k int = 1
type T struct {
a int
b *T
U
b.V
}
type U struct {
}
type I interface {
M(T) I
b.W
J
}
func f[P any, Q int|string](p P, q ...Q) (P, Q) {
var v P
v, w := p, q
return v, w
}
func main() {
x := x
y, x := x, c.X
if z := y; z > x {
x := z
print(x)
} else if y := z; y > 0 {
print(y, z, T{a: z, b: nil})
}
for i := 0; i < k; i++ {
i := i
i++
break
}
for i, e := range x {
select {
case e, ok := <-e:
print(e, ok)
continue
case x <- i:
break
case <-e:
i := e
print(i)
default:
}
}
g := func(a int, _ T) int {
y := a
return func(y int) int { return x + y }(y)
}
g(b.F(y).a)
x, _ = y, x
}
`, "main/b.gc", `package main
import "b"
var y = 1
var z b.V = b.V{b.X, k}
func (t *T) M(x T) I {
t.a, x.b = x.a, t.b
switch t.a {
case x.a, k:
const k = k
print(k)
case 2:
t := x
t.M(x)
}
go f[int, b.V](t)
return nil
}
type J interface {
}
`, "b/b.gc", `package b
import "c"
var X = c.X
type V struct {
c int
}
type W interface {
}
func F(c int) V {
c++
return V{c: c}
}
`, "c/c.gc", `package c
var X = main
func main(c int) int {
return X
}
`)
}

func TestGreat(t *testing.T) {
	if ok, loads := held(t, great()); !ok || !loads {
		t.Fatalf("P12: %v, %v", ok, loads)
	}
}

// changed is files with the text of one of them changed.
func changed(l []api.File, i int, text string) []api.File {
	out := slices.Clone(l)
	out[i].Text = text
	return out
}

// Every identifier in the place of every other one.
func TestOtherNames(t *testing.T) {
	l := great()
	names := []string{"_", "int", "print", "nil", "nowhere", "main", "comparable", "X", "Z"}
	for _, f := range l {
		tokens, _ := scan.Tokens(f.Text)
		for _, token := range tokens {
			if token.Kind == api.TokIdent {
				names = append(names, token.Text)
			}
		}
	}
	slices.Sort(names)
	names = slices.Compact(names)
	oks, all := 0, 0
	for i, f := range l {
		tokens, _ := scan.Tokens(f.Text)
		for _, token := range tokens {
			if token.Kind != api.TokIdent {
				continue
			}
			for _, name := range names {
				ok, loads := held(t, changed(l, i, f.Text[:token.From]+name+f.Text[token.To:]))
				if ok {
					oks++
				}
				if loads {
					all++
				}
			}
		}
	}
	if oks < 500 || all-oks < 500 {
		t.Errorf("of %d modules %d are right: that is not much of a test", all, oks)
	}
}

// Every line left out, written twice, and standing ahead of the one before it.
func TestOtherLines(t *testing.T) {
	l := great()
	oks, all := 0, 0
	try := func(i int, lines ...[]string) {
		ok, loads := held(t, changed(l, i, strings.Join(slices.Concat(lines...), "\n")))
		if ok {
			oks++
		}
		if loads {
			all++
		}
	}
	for i, f := range l {
		lines := strings.Split(f.Text, "\n")
		for n := 1; n < len(lines); n++ {
			try(i, lines[:n], lines[n+1:])
			try(i, lines[:n+1], lines[n:])
			try(i, lines[:n-1], lines[n:n+1], lines[n-1:n], lines[n+1:])
			for to := n + 2; to < len(lines); to++ {
				try(i, lines[:n], lines[n+1:to], lines[n:n+1], lines[to:])
				try(i, lines[:n], []string{"{"}, lines[n:to], []string{"}"}, lines[to:])
			}
		}
	}
	if oks < 100 || all-oks < 500 {
		t.Errorf("of %d modules %d are right: that is not much of a test", all, oks)
	}
}

// writer writes functions by chance.
type writer struct {
	*rand.Rand
	strings.Builder
	deep int
}

// pick is one of the words.
func (w *writer) pick(words string) string {
	l := strings.Fields(words)
	return l[w.IntN(len(l))]
}

// name is that of something: of few names, so that they meet.
func (w *writer) name() string { return w.pick("a a b b c c d p q T") }

// value is an expression.
func (w *writer) value() string {
	if w.deep > 4 || w.IntN(3) > 0 {
		return w.pick("1 a b c d a b c d p q nil p.X p.Y a.b T{} T{a:b} (a)")
	}
	w.deep++
	defer func() { w.deep-- }()
	switch w.IntN(4) {
	case 0:
		return w.value() + "+" + w.value()
	case 1:
		return w.name() + "(" + w.value() + ", []" + w.kind() + ")"
	case 2:
		inner := writer{Rand: w.Rand, deep: w.deep}
		inner.block(w.name())
		return "func(" + w.name() + " " + w.kind() + ", _ int) " + w.pick("int T p.T a") + inner.String()
	}
	return "(" + w.value() + ")"
}

// kind is a type.
func (w *writer) kind() string {
	return []string{"int", "int", "T", "p.T", "string", "any", "*T", "[]int", "chan a", "struct { a int; b T; T }", "func(T) int", "interface { M(a); T }"}[w.IntN(12)]
}

// block writes statements, and then, mostly, one that needs what they declared.
func (w *writer) block(names ...string) {
	w.WriteString("{")
	w.stmts(names...)
	w.WriteString("}")
}

// stmts writes the statements of a block.
func (w *writer) stmts(names ...string) {
	w.deep++
	defer func() { w.deep-- }()
	for range w.IntN(4) {
		names = append(names, w.stmt()...)
		w.WriteString(";")
	}
	if len(names) > 0 && w.IntN(8) > 0 {
		fmt.Fprintf(w, "print(%s)", strings.Join(names, ", "))
	}
}

// stmt writes a statement, and is the names that it declares.
func (w *writer) stmt() []string {
	a, b := w.name(), w.pick("a b c d _")
	if w.deep > 4 {
		fmt.Fprintf(w, "print(%s)", w.value())
		return nil
	}
	switch w.IntN(14) {
	case 0:
		fmt.Fprintf(w, "var %s = %s", a, w.value())
		return []string{a}
	case 1:
		fmt.Fprintf(w, "const %s %s = %s", a, w.kind(), w.value())
	case 2, 3, 4:
		fmt.Fprintf(w, "%s := %s", a, w.value())
		return []string{a}
	case 5:
		fmt.Fprintf(w, "%s, %s := %s, %s", a, b, w.value(), w.value())
		return []string{a, strings.Replace(b, "_", a, 1)}
	case 6:
		fmt.Fprintf(w, "%s, %s = %s, %s", a, b, w.value(), w.value())
	case 7:
		fmt.Fprintf(w, "if %s := f(%s); %s > 1 ", a, w.value(), a)
		w.block()
		if w.IntN(2) == 0 {
			w.WriteString(" else ")
			w.block(a)
		}
	case 8:
		fmt.Fprintf(w, "for %s := f(%s); %s > 1; %s ", a, w.value(), a, w.pick("a=1 b++ a,b=b,a c:=1"))
		w.block()
	case 9:
		fmt.Fprintf(w, "for %s, %s := range f(%s) ", a, b, w.value())
		w.block(a, strings.Replace(b, "_", a, 1))
	case 10:
		w.block()
	case 11:
		fmt.Fprintf(w, "switch f(%s) { case %s: ", w.value(), w.value())
		w.stmts()
		w.WriteString("; default: ")
		w.stmts()
		w.WriteString("}")
	case 12:
		fmt.Fprintf(w, "select { case %s, %s := <-f(%s): ", a, b, w.value())
		w.stmts(a, strings.Replace(b, "_", a, 1))
		w.WriteString("}")
	case 13:
		w.WriteString(w.pick("break continue a+=1 b++ a.b=c f(a) f(b) f(c) f(d)"))
	}
	return nil
}

// module writes a module of few names, some of which may be an import, a type or nothing.
func (w *writer) module() []api.File {
	one := func(l ...string) string { return l[w.IntN(len(l))] }
	head := one("import \"p\"; var x = p.X", "import \"p\"", "var p = 1", "func p() {}", "type p struct { X int }", "var q = 1")
	w.WriteString("package main; " + head + "; " + one("var a = 1", "type a int", "func a(b int) a {}", "const a = 1") + "; var b = 1; ")
	w.WriteString(one("type T int; ", "type T struct { a T; b int }; ", "type T interface { M(T) }; ", "type T struct { a; T }; func (a T) b(b a) T { return a }; "))
	fmt.Fprintf(w, "func f%s(%s %s, %s %s) %s ", one("", "", "[T any]", "[a int|T, U any]"), w.pick("a b c d"), w.kind(), w.pick("_ p q f"), w.kind(), w.pick("int T a"))
	w.block()
	w.WriteString("; func main() ")
	w.block()
	l := files("main/a.gc", w.String())
	if strings.HasPrefix(head, "import") {
		l = append(l, files("p/p.gc", "package p; var X = Y; var Y = 1; type T int")...)
	}
	return l
}

// Modules by chance.
func TestChance(t *testing.T) {
	random := rand.New(rand.NewPCG(12, 6))
	oks, all := 0, 20000
	for range all {
		w := writer{Rand: random}
		l := w.module()
		ok, loads := held(t, l)
		if !loads {
			t.Fatalf("%q does not load", l)
		}
		if ok {
			oks++
		}
	}
	if oks < 2000 || all-oks < 5000 {
		t.Errorf("of %d modules %d are right: that is not much of a test", all, oks)
	}
}
