package uses_test

import (
	"testing"

	"recast/check"
	"recast/uses"
)

// members wants names in declared types to find objects: each is told by the text that stands where it is declared.
func members(t *testing.T, text, other string, want map[[2]string]string) {
	t.Helper()
	l := files("main/a.gc", text+"; func main() {}")
	texts := map[string]string{"main/a.gc": text}
	if other != "" {
		l = append(l, files("b/b.gc", other)...)
		texts["b/b.gc"] = other
	}
	r := checked(t, l)
	for asked, part := range want {
		number, ok := uses.Member(r, asked[0], asked[1])
		switch {
		case part == "" && (ok || number != 0):
			t.Errorf("P14.2: Member of %v is %d, %v, in %s", asked, number, ok, text)
		case part != "" && !ok:
			t.Errorf("P14.2: Member of %v is none, want the one at %q, in %s", asked, part, text)
		case part != "":
			path := "main/a.gc"
			if part[0] == '@' {
				path, part = "b/b.gc", part[1:]
			}
			o := r.Info.Objects[number]
			if o.Path != path || o.At != at(t, texts[path], part, 0)+len(part)-len(asked[1]) {
				t.Errorf("P14.2: Member of %v is %v, want the one at the end of %q, in %s, %s", asked, o, part, text, other)
			}
		}
	}
}

func TestMember(t *testing.T) {
	members(t, "package main; type T struct { x int; f func() }; func (t T) M() {}; func (t *T) P() {}; type U int; func (t *U) M() {}; func (x U) x() {}; type V T; type W V; func (w W) M() {}", "", map[[2]string]string{
		{"main.T", "x"}: "{ x", {"main.T", "f"}: "; f", {"main.T", "M"}: "(t T) M", {"main.T", "P"}: "(t *T) P", {"main.U", "M"}: "(t *U) M", {"main.U", "x"}: "(x U) x",
		{"main.V", "x"}: "{ x", {"main.W", "f"}: "; f", {"main.W", "M"}: "(w W) M", {"main.V", "M"}: "", {"main.W", "P"}: "", {"main.U", "P"}: "",
		{"main.T", ""}: "", {"main.T", "T"}: "", {"T", "x"}: "", {"main.", "x"}: "", {"", ""}: "", {"b.T", "x"}: "", {"main.X", "x"}: "", {"main.T.x", ""}: "", {"int", "x"}: "", {"main.main", "x"}: "",
	})
	// Embedded fields, and what is found through them: the nearest one, twice is none.
	members(t, "package main; type A struct { x int; y int }; func (a A) M() {}; type B struct { A; z int }; type C struct { B; x string }; type D struct { y int; z int; M func() }; type E struct { B; D }; type F struct { D; A }; type G E; type H struct { G; C; D }; func (h H) z() {}", "", map[[2]string]string{
		{"main.B", "A"}: "struct { A", {"main.B", "x"}: "{ x", {"main.B", "y"}: "{ x int; y", {"main.B", "M"}: "(a A) M", {"main.C", "B"}: "struct { B", {"main.C", "A"}: "struct { A", {"main.C", "x"}: "B; x", {"main.C", "y"}: "x int; y", {"main.C", "M"}: "(a A) M", {"main.C", "z"}: "A; z",
		{"main.E", "z"}: "", {"main.E", "y"}: "{ y", {"main.E", "M"}: "z int; M", {"main.E", "x"}: "{ x", {"main.F", "M"}: "", {"main.F", "y"}: "", {"main.F", "x"}: "{ x", {"main.F", "z"}: "y int; z", {"main.F", "A"}: "struct { D; A",
		{"main.G", "D"}: "struct { B; D", {"main.G", "y"}: "{ y", {"main.H", "z"}: "(h H) z", {"main.H", "B"}: "", {"main.H", "D"}: "G; C; D", {"main.H", "G"}: "struct { G", {"main.H", "x"}: "B; x", {"main.H", "y"}: "{ y", {"main.H", "A"}: "struct { A",
	})
	// Declared pointers have what they point to, but a pointer to a pointer, or to an interface.
	members(t, "package main; type T struct { x int }; func (t *T) M() {}; type P *T; type Q P; type R *P; type S struct { p P; T }; type I interface { N() }; type J *I; type U *S; type L []T; type F func(T); type C chan T", "", map[[2]string]string{
		{"main.P", "x"}: "{ x", {"main.P", "M"}: "(t *T) M", {"main.Q", "x"}: "{ x", {"main.Q", "M"}: "(t *T) M", {"main.R", "x"}: "", {"main.R", "M"}: "", {"main.J", "N"}: "", {"main.U", "x"}: "{ x", {"main.U", "p"}: "{ p", {"main.U", "T"}: "p P; T", {"main.L", "x"}: "", {"main.F", "x"}: "", {"main.C", "M"}: "",
	})
	// Across packages; a name that is not exported too.
	members(t, "package main; import \"b\"; type S int; type T b.T; type U struct { b.T; S }; func (u U) s() {}; type I b.I; type J interface { M(); b.I }; type K interface { b.K; N() }", "package b; type S struct { X int; y int }; type T struct { S }; func (s S) M() {}; func (s *S) m() {}; func (t T) N() {}; type I interface { N() }; type K interface { N(); I; m() }", map[[2]string]string{
		{"main.T", "S"}: "@{ S", {"main.T", "X"}: "@{ X", {"main.T", "y"}: "@int; y", {"main.T", "M"}: "@(s S) M", {"main.T", "m"}: "@(s *S) m", {"main.T", "N"}: "", {"main.U", "N"}: "@(t T) N", {"main.U", "S"}: "b.T; S", {"main.U", "T"}: "{ b.T", {"main.U", "s"}: "(u U) s", {"main.U", "X"}: "@{ X", {"main.S", "X"}: "", {"b.S", "X"}: "@{ X", {"b.U", "X"}: "",
		{"main.I", "N"}: "@interface { N", {"main.J", "N"}: "@interface { N", {"main.J", "M"}: "interface { M", {"main.K", "N"}: "K; N", {"main.K", "m"}: "@I; m", {"b.K", "N"}: "@K interface { N",
	})
}

func TestMemberOfInterface(t *testing.T) {
	// What is declared there itself, wherever; else of the first one that has it.
	members(t, "package main; type A interface { M(); N() }; type B interface { N(); O() }; type C interface { A; B }; type D interface { B; A }; type E interface { A; N(); B; M() }; type F interface { any; B; C; D }; type G F; type H G; type I interface { P(); H; E }; type J interface { interfaces }; type interfaces interface { A }", "", map[[2]string]string{
		{"main.C", "M"}: "A interface { M", {"main.C", "N"}: "A interface { M(); N", {"main.C", "O"}: "N(); O", {"main.D", "N"}: "B interface { N", {"main.D", "M"}: "A interface { M", {"main.E", "M"}: "B; M", {"main.E", "N"}: "{ A; N", {"main.E", "O"}: "N(); O",
		{"main.F", "N"}: "B interface { N", {"main.F", "M"}: "A interface { M", {"main.G", "N"}: "B interface { N", {"main.H", "M"}: "A interface { M", {"main.I", "N"}: "B interface { N", {"main.I", "M"}: "A interface { M", {"main.I", "P"}: "{ P", {"main.I", "A"}: "", {"main.J", "N"}: "A interface { M(); N", {"main.F", "P"}: "",
	})
	// Types that stand in a method's parameters and results are not embedded.
	members(t, "package main; import \"b\"; type A interface { M() }; type B interface { M() }; type T struct { A A; x B }; type P *A; "+
		"type C interface { N(A) A; B }; type D interface { N() (A, A); B }; type E interface { N(any, A) any; B }; type F interface { N(*A, []A, chan A, func(A, ...A) A, (A)) (T, P); B }; type G interface { N(b.A, interface {}, b.T, struct {}) b.A; B }; type H interface { N(T); B; O(A); A }; type I interface { N(func(b.A, []b.A) b.A, []T, A); b.B; A }; "+
		"type K interface { N() }; type L interface { K; O(B, A) }; type O interface { N(); any; B }; var v A; type Q interface { B }; func f(a A) A { var b A = a; return b }; type R interface { B }; func (t T) t(a A) A { return a }", "package b; type A interface { M() }; type B interface { M() }; type T int; type U interface { A }; const c = 1; type V interface { B; A }", map[[2]string]string{
		{"main.C", "M"}: "B interface { M", {"main.D", "M"}: "B interface { M", {"main.E", "M"}: "B interface { M", {"main.F", "M"}: "B interface { M", {"main.G", "M"}: "B interface { M", {"main.H", "M"}: "B interface { M", {"main.I", "M"}: "@B interface { M", {"main.L", "N"}: "K interface { N", {"main.O", "M"}: "B interface { M", {"main.Q", "M"}: "B interface { M", {"main.R", "M"}: "B interface { M",
		{"b.U", "M"}: "@A interface { M", {"b.V", "M"}: "@B interface { M", {"main.T", "A"}: "struct { A", {"main.T", "x"}: "A A; x", {"main.T", "M"}: "", {"main.P", "M"}: "",
	})
	// So many ways up that nobody could go them all.
	text := "package main; type I0 interface { M() }"
	for i := range 60 {
		text += "; type I" + letters(i+1) + " interface { I" + letters(i) + "; J" + letters(i) + " }; type J" + letters(i) + " I" + letters(i)
	}
	members(t, text, "", map[[2]string]string{{"main.I" + letters(60), "M"}: "{ M", {"main.J" + letters(59), "M"}: "{ M"})
}

// letters is a number as a part of a name.
func letters(i int) string {
	if i == 0 {
		return "0"
	}
	out := ""
	for ; i > 0; i /= 26 {
		out += string(rune('a' + i%26))
	}
	return out
}

func TestMemberOfNothing(t *testing.T) {
	for _, r := range []check.Result{{}, checked(t, files("main/a.gc", "package main; func main() {}"))} {
		if number, ok := uses.Member(r, "main.T", "x"); ok || number != 0 {
			t.Errorf("P14.2: Member is %d, %v", number, ok)
		}
	}
}
