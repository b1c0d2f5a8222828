package uses_test

import (
	"slices"
	"strings"
	"testing"

	"recast/check"
	"recast/uses"
)

func TestRelation(t *testing.T) {
	for _, row := range []struct{ text, want string }{
		// The document's words: T itself, a pointer alone, each interface itself.
		{"type T int; func (t T) M() {}; type I interface { M() }", "main.I main.I, main.T main.I"},
		{"type T int; func (t *T) M() {}; type I interface { M() }", "*main.T main.I, main.I main.I"},
		{"type T int; func (t *T) M() {}; func (t T) N() {}; type I interface { M(); N() }; type J interface { N() }", "*main.T main.I, main.I main.I, main.I main.J, main.J main.J, main.T main.J"},
		// An interface without methods aside; none at all.
		{"type T int; func (t T) M() {}; type I interface {}; type A any; type B A", ""},
		{"type T int; func (t T) M() {}", ""}, {"const c = 1", ""},
		{"type I interface { M() }", "main.I main.I"},
		// Another Sig, another name, one method too few.
		{"type T int; func (t T) M(x int) {}; func (t T) m() {}; type I interface { M() }; type J interface { M(int) int }; type K interface { M(int); N() }; type L interface { M(int) }", "main.I main.I, main.J main.J, main.K main.K, main.K main.L, main.L main.L, main.T main.L"},
		// Promoted, declared as another one, declared pointers and interfaces.
		{"type T int; func (t *T) M() {}; func (t T) N() {}; type U struct { T }; type V U; type W T; type P *U; type Q P; type R *P; type I interface { M() }; type J interface { N() }; type K J; type O *J", "*main.T main.I, *main.U main.I, *main.V main.I, main.I main.I, main.J main.J, main.J main.K, main.K main.J, main.K main.K, main.P main.I, main.P main.J, main.P main.K, main.Q main.I, main.Q main.J, main.Q main.K, main.T main.J, main.T main.K, main.U main.J, main.U main.K, main.V main.J, main.V main.K"},
		// Names of which one begins another one, digits and capitals.
		{"type I interface { M() }; type I2 interface { M() }; type i_ I; type J1 int; func (j J1) M() {}; type J int; func (j *J) M() {}; type J10 int; func (j *J10) M() {}", "*main.J main.I, *main.J main.I2, *main.J main.i_, *main.J10 main.I, *main.J10 main.I2, *main.J10 main.i_, main.I main.I, main.I main.I2, main.I main.i_, main.I2 main.I, main.I2 main.I2, main.I2 main.i_, main.J1 main.I, main.J1 main.I2, main.J1 main.i_, main.i_ main.I, main.i_ main.I2, main.i_ main.i_"},
		// The first method's name is shared, and stands in neither alone.
		{"type I interface { A(); B() }; type J interface { A(); C() }; type K interface { B(); C() }; type T int; func (t T) A() {}; func (t T) B() {}; func (t T) C() {}; type U int; func (u U) A() {}; func (u *U) B() {}; func (u U) C() {}", "*main.U main.I, *main.U main.K, main.I main.I, main.J main.J, main.K main.K, main.T main.I, main.T main.J, main.T main.K, main.U main.J"},
	} {
		r := checked(t, inMain(row.text))
		if got := strings.Join(uses.Relation(r), ", "); got != row.want {
			t.Errorf("P14.4: Relation is\n%s, want\n%s, of %s", got, row.want, row.text)
		}
	}
	if l := uses.Relation(check.Result{}); len(l) > 0 {
		t.Errorf("P14.4: of nothing at all Relation is %q", l)
	}
}

func TestRelationOfPackages(t *testing.T) {
	r := checked(t, files("main/a.gc", "package main; import \"b\"; type T b.T; type U struct { b.T }; func (u U) n() {}; type I b.I; type J interface { M(b.T) }; func main() {}",
		"b/b.gc", "package b; type T int; func (t T) M(x T) {}; func (t *T) n() {}; type I interface { M(T) }; type K interface { n() }"))
	got := uses.Relation(r)
	want := strings.Split("*b.T b.K,b.I b.I,b.I main.I,b.I main.J,b.K b.K,b.T b.I,b.T main.I,b.T main.J,main.I b.I,main.I main.I,main.I main.J,main.J b.I,main.J main.I,main.J main.J,main.U b.I,main.U b.K,main.U main.I,main.U main.J", ",")
	if !slices.Equal(got, want) {
		t.Errorf("P14.4: Relation is\n%q, want\n%q", got, want)
	}
}
