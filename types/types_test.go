package types_test

import (
	"fmt"
	"testing"

	"recast/api"
	"recast/types"
)

func TestMake(t *testing.T) {
	for kind := -2; kind < 20; kind++ {
		for _, kids := range [][]api.Type{nil, {number()}, {text(), fields("x +T", number(), declared("main.T"))}, {truth(), many(1, of(api.TypeSlice, text())), param("P", 1, anyEqual())}} {
			want := api.Type{Kind: kind, Kids: kids}
			if kind == api.TypeFunc {
				want.N = len(kids)
			}
			same(t, fmt.Sprintf("P8.1: Make(%d) of %d kids", kind, len(kids)), types.Make(kind, kids...), want)
		}
	}
	for _, name := range []string{"", "T", "main.T", "a.b.c", "\x00"} {
		same(t, "P8.1: Name", types.Name(name), api.Type{Kind: api.TypeNamed, Name: name})
	}
}

// changed is a type, and what it may be changed to so that it is another one.
func changed() (api.Type, map[string]api.Type) {
	base := func() api.Type {
		return api.Type{Kind: api.TypeStruct, Name: "n", N: 1, Flag: true, Names: []string{"x", "y"}, Marks: []bool{false, true}, Kids: []api.Type{number(), text()}}
	}
	out := map[string]api.Type{}
	for what, change := range map[string]func(t *api.Type){
		"Kind":           func(t *api.Type) { t.Kind = api.TypeFunc },
		"Name":           func(t *api.Type) { t.Name = "m" },
		"N":              func(t *api.Type) { t.N = -1 },
		"Flag":           func(t *api.Type) { t.Flag = false },
		"a name":         func(t *api.Type) { t.Names[1] = "z" },
		"names' order":   func(t *api.Type) { t.Names[0], t.Names[1] = t.Names[1], t.Names[0] },
		"a name less":    func(t *api.Type) { t.Names = t.Names[:1] },
		"a name more":    func(t *api.Type) { t.Names = append(t.Names, "") },
		"no names":       func(t *api.Type) { t.Names = nil },
		"a mark":         func(t *api.Type) { t.Marks[0] = true },
		"a mark less":    func(t *api.Type) { t.Marks = t.Marks[:1] },
		"a mark more":    func(t *api.Type) { t.Marks = append(t.Marks, false) },
		"a kid":          func(t *api.Type) { t.Kids[0] = truth() },
		"the last kid":   func(t *api.Type) { t.Kids[1] = truth() },
		"kids' order":    func(t *api.Type) { t.Kids[0], t.Kids[1] = t.Kids[1], t.Kids[0] },
		"a kid less":     func(t *api.Type) { t.Kids = t.Kids[:1] },
		"a kid more":     func(t *api.Type) { t.Kids = append(t.Kids, api.Type{}) },
		"no kids":        func(t *api.Type) { t.Kids = nil },
		"a kid's kids":   func(t *api.Type) { t.Kids[0].Kids = []api.Type{{}} },
		"a kid's number": func(t *api.Type) { t.Kids[1].N = 1 },
	} {
		x := base()
		change(&x)
		out[what] = x
	}
	return base(), out
}

// identical wants Identical to answer so, both ways round, of the types and of others that hold them.
func identical(t *testing.T, what string, a, b api.Type, want bool) {
	t.Helper()
	wrap := func(x api.Type) api.Type { return fn(1, number(), of(api.TypeTuple, text(), of(api.TypePointer, x))) }
	for _, l := range [][2]api.Type{{a, b}, {b, a}, {wrap(a), wrap(b)}, {wrap(b), wrap(a)}} {
		if got := types.Identical(l[0], l[1]); got != want {
			t.Errorf("P8.2: %s: Identical(%s, %s) is %v", what, dump(l[0]), dump(l[1]), got)
		}
	}
}

func TestIdentical(t *testing.T) {
	base, others := changed()
	again, _ := changed()
	identical(t, "the same", base, again, true)
	for what, x := range others {
		identical(t, what, base, x, false)
	}
	identical(t, "nil and empty", of(api.TypeStruct), api.Type{Kind: api.TypeStruct, Names: []string{}, Marks: []bool{}, Kids: []api.Type{}}, true)
	for a := 0; a < 19; a++ {
		for b := 0; b < 19; b++ {
			identical(t, "kinds", of(a), of(b), a == b)
			identical(t, "kinds with a kid", of(a, number()), of(b, number()), a == b)
		}
	}
	identical(t, "declared", declared("a.T"), declared("a.T"), true)
	identical(t, "of two packages", declared("a.T"), declared("b.T"), false)
	identical(t, "what is a parameter", fn(1, number()), fn(0, number()), false)
	identical(t, "any number", many(1, of(api.TypeSlice, number())), fn(1, of(api.TypeSlice, number())), false)
	identical(t, "constants", of(api.TypeConstInt), number(), false)
}

// Of type parameters nothing counts but the name and the number.
func TestIdenticalParams(t *testing.T) {
	p := param("P", 1, anyEqual())
	for what, x := range map[string]api.Type{
		"another constraint": param("P", 1, of(api.TypeUnion, number())),
		"no constraint":      param("P", 1),
		"two":                param("P", 1, anyEqual(), number()),
		"all the rest":       {Kind: api.TypeParam, Name: "P", N: 1, Flag: true, Names: []string{"a"}, Marks: []bool{true}},
	} {
		identical(t, what, p, x, true)
		if types.Text(x) != types.Text(p) {
			t.Errorf("P8.9: %s: the texts are %q and %q", what, types.Text(x), types.Text(p))
		}
	}
	identical(t, "another name", p, param("Q", 1, anyEqual()), false)
	identical(t, "another number", p, param("P", 0, anyEqual()), false)
	identical(t, "declared", p, api.Type{Kind: api.TypeNamed, Name: "P", N: 1, Kids: []api.Type{anyEqual()}}, false)
	identical(t, "zero", api.Type{}, param("", 0), false)
}

func TestSubst(t *testing.T) {
	a, b, c := param("A", 0, face("M", fn(0))), param("B", 1, anyEqual()), param("C", 2)
	slice := of(api.TypeSlice, declared("main.T"))
	for _, x := range []struct {
		what string
		t    api.Type
		args []api.Type
		want api.Type
	}{
		{"itself", b, []api.Type{number(), slice}, slice},
		{"the first", a, []api.Type{number(), slice}, number()},
		{"beyond", c, []api.Type{number(), slice}, c},
		{"below 0", param("A", -1), []api.Type{number()}, param("A", -1)},
		{"far below", param("A", -1<<63), []api.Type{number()}, param("A", -1<<63)},
		{"far beyond", param("A", 1<<63-1), []api.Type{number()}, param("A", 1<<63-1)},
		{"none", fn(1, a, b), nil, fn(1, a, b)},
		{"everywhere", many(2, a, of(api.TypeSlice, b), c, a), []api.Type{text(), slice}, many(2, text(), of(api.TypeSlice, slice), c, text())},
		{"the rest stays", fields("x +T y", a, declared("T"), of(api.TypePointer, a)), []api.Type{truth()}, fields("x +T y", truth(), declared("T"), of(api.TypePointer, truth()))},
		{"methods", face("M N", fn(1, a), fn(0, of(api.TypeChan, a))), []api.Type{truth()}, face("M N", fn(1, truth()), fn(0, of(api.TypeChan, truth())))},
		{"a constraint", param("C", 2, of(api.TypeUnion, a, b)), []api.Type{text(), number()}, param("C", 2, of(api.TypeUnion, text(), number()))},
		{"once alone", fn(1, a, b), []api.Type{b, a}, fn(1, b, a)},
		{"by itself", a, []api.Type{of(api.TypeSlice, a)}, of(api.TypeSlice, a)},
		{"by number, not by name", param("B", 0), []api.Type{text(), number()}, text()},
		{"no others of that N", fn(0, anyEqual(), number()), []api.Type{text(), truth()}, fn(0, anyEqual(), number())},
		{"no declared type of that name", declared("A"), []api.Type{text()}, declared("A")},
		{"one that is not known", of(api.TypeSlice, a), []api.Type{{}}, of(api.TypeSlice, api.Type{})},
	} {
		same(t, "P8.4: Subst: "+x.what, types.Subst(x.t, x.args), x.want)
	}
}

func TestDefault(t *testing.T) {
	same(t, "P8.4: Default", types.Default(of(api.TypeConstInt)), number())
	same(t, "P8.4: Default", types.Default(of(api.TypeConstStr)), text())
	same(t, "P8.4: Default", types.Default(of(api.TypeConstBool)), truth())
	for _, x := range []api.Type{{}, number(), text(), truth(), of(api.TypeNil), declared("T"), param("P", 2, anyEqual()), of(api.TypeSlice, of(api.TypeConstInt)), of(api.TypeTuple), fields("x +T", of(api.TypeConstStr), declared("T")), many(1, text()), of(-7), of(99, truth())} {
		same(t, "P8.4: Default", types.Default(x), x)
	}
}
