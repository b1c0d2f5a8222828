package uses_test

import (
	"fmt"
	"reflect"
	"testing"

	"recast/api"
	"recast/check"
	"recast/module"
	"recast/uses"
)

// roomy is a list with spare room behind it, in which something stands.
func roomy[T any](l []T, filler T) []T {
	out := append(make([]T, 0, len(l)+3), l...)
	for i := len(out); i < cap(out); i++ {
		out[:cap(out)][i] = filler
	}
	return out
}

// whole is lists with their spare room.
func whole(r check.Result) string {
	return fmt.Sprint(r.Info.Objects[:cap(r.Info.Objects)], r.Info.Uses[:cap(r.Info.Uses)], r.Info.Types[:cap(r.Info.Types)], r.Named[:cap(r.Named)], r.Order[:cap(r.Order)])
}

// greatest is files with members of all kinds.
func greatest() []api.File {
	return files("main/a.gc", "package main; import \"b\"; type T struct { b.S; x int }; func (t T) M() {}; type I interface { M(); b.I }; type J I; type P *T; func main() { t := T{}; var i J = t; i.M(); i.N(); print(t.x, t.Y) }",
		"main/b.gc", "//build t\npackage main; type U struct { T }; var u I = U{}.T", "b/b.gc", "package b; type S struct { Y int }; func (s S) N() {}; type I interface { N() }")
}

func TestNothingChanged(t *testing.T) {
	r := checked(t, greatest())
	r.Info.Objects = roomy(r.Info.Objects, api.Object{Name: "x"})
	r.Info.Uses = roomy(r.Info.Uses, api.Use{Path: "zz", Obj: 1})
	r.Info.Types = roomy(r.Info.Types, api.Typed{Path: "x"})
	r.Named = roomy(r.Named, api.Named{Name: "main.Z", Methods: []api.Method{{Name: "M"}}})
	for i, n := range r.Named {
		r.Named[i].Methods = roomy(n.Methods, api.Method{Name: "x"})
		r.Named[i].Under.Names = roomy(n.Under.Names, "x")
		r.Named[i].Under.Kids = roomy(n.Under.Kids, api.Type{Kind: 99})
	}
	r.Order = roomy(r.Order, 77)
	before := whole(r)
	objs := roomy([]int{3, 1, 2, 1, -1}, 99)
	for range 2 {
		for _, u := range r.Info.Uses {
			uses.Object(r, u.Path, u.At)
		}
		uses.Places(r, objs)
		uses.Relation(r)
		for _, n := range r.Named {
			for _, name := range []string{"M", "N", "x", "Y", "S", "z"} {
				uses.Member(r, n.Name, name)
			}
		}
	}
	if got := fmt.Sprint(objs[:cap(objs)]); got != "[3 1 2 1 -1 99 99 99]" {
		t.Errorf("P14.5: Places makes %s of the numbers", got)
	}
	if whole(r) != before {
		t.Errorf("P14.5: what was handed in is changed: %s, was %s", whole(r), before)
	}
}

func TestNothingKept(t *testing.T) {
	r := checked(t, greatest())
	var all []int
	for number := range r.Info.Objects {
		all = append(all, number)
	}
	m, place := loaded(t, greatest()), at(t, greatest()[0].Text, "M()", 0)
	answers := func() string {
		family, ok := uses.Family(m, "main/a.gc", place)
		return fmt.Sprint(uses.Places(r, all), uses.Relation(r), family, ok)
	}
	before := answers()
	places, relation := uses.Places(r, all), uses.Relation(r)
	family, ok := uses.Family(m, "main/a.gc", place)
	if !ok || len(family) < 3 || len(relation) < 3 || len(places) < 3 {
		t.Fatal("that is not much of a test")
	}
	clear(places[:cap(places)])
	clear(relation[:cap(relation)])
	clear(family[:cap(family)])
	if after := answers(); after != before {
		t.Errorf("P14.5: the answers are\n%s, were\n%s", after, before)
	}
	// What is told of another module between says nothing of this one.
	other := checked(t, inMain("type X struct { a int }"))
	uses.Relation(other)
	uses.Member(other, "main.X", "a")
	uses.Family(loaded(t, inMain("type X struct { a int }")), "main/a.gc", 19)
	if after := answers(); after != before {
		t.Errorf("rule 4: the answers are\n%s, were\n%s", after, before)
	}
}

func TestModuleAsItWas(t *testing.T) {
	m, again := loaded(t, greatest()), loaded(t, greatest())
	for at := range 200 {
		uses.Family(m, "main/a.gc", at)
	}
	if !reflect.DeepEqual(m, again) {
		t.Error("P14.5: the module is changed")
	}
	var none *module.Module
	if _, ok := uses.Family(none, "", 0); ok {
		t.Error("P14.3: nothing has a Family")
	}
}

// Results that no checking tells have no meaning, but end.
func TestOddResults(t *testing.T) {
	whole := checked(t, greatest())
	odd := []check.Result{
		{Info: whole.Info}, {Named: whole.Named}, {Info: api.Info{Uses: whole.Info.Uses}, Named: whole.Named}, {Info: api.Info{Objects: whole.Info.Objects}, Named: whole.Named},
		{Info: api.Info{Uses: []api.Use{{Obj: 5}, {Obj: -7}, {Obj: 1 << 62}}}},
		{Info: api.Info{Objects: []api.Object{{Kind: api.ObjType, Name: "A", Pkg: "main"}, {Kind: api.ObjType, Name: "B", Pkg: "main", At: 5}}, Uses: []api.Use{{Obj: 0}, {At: 1, Obj: 1}, {At: 5, Obj: 1}, {At: 6, Obj: 0}}},
			Named: []api.Named{{Name: "main.A", Under: api.Type{Kind: api.TypeInterface, Names: []string{"M"}, Kids: []api.Type{{Kind: api.TypeFunc}}}}, {Name: "main.B", Under: api.Type{Kind: api.TypeInterface, Names: []string{"M"}, Kids: []api.Type{{Kind: api.TypeFunc}}}}}},
		{Named: []api.Named{{Name: "main.A", Under: api.Type{Kind: api.TypeNamed, Name: "main.A"}}}},
		{Named: []api.Named{{Name: "main.A"}, {Name: "main.A"}}},
	}
	for _, r := range odd {
		uses.Object(r, "main/a.gc", 40)
		uses.Places(r, []int{0, 5, -1, 1 << 62})
		uses.Relation(r)
		for _, owner := range []string{"main.T", "main.I", "main.J", "b.S", "main.A", "main.B"} {
			for _, name := range []string{"M", "N", "x", "S"} {
				uses.Member(r, owner, name)
			}
		}
	}
}
