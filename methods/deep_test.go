package methods_test

import (
	"fmt"
	"testing"

	"recast/api"
	"recast/methods"
	"recast/types"
)

// Types may be far deeper than calls may be within one another, and be reached by more ways than could be gone.

// nested is structs within one another, each the embedded field number 1 of the next, the innermost with an x.
func nested(deep int) api.Type {
	t := fields("x", number())
	for range deep {
		t = fields("a +in", number(), t)
	}
	return t
}

func TestDeepStructs(t *testing.T) {
	const deep = 100000
	x := nested(deep)
	f, ok := methods.Lookup(nil, to(x), "x")
	if !ok || f.Kind != api.ObjField || len(f.Path) != deep+1 || f.Path[0] != 1 || f.Path[deep-1] != 1 || f.Path[deep] != 0 || !f.Deref {
		t.Fatalf("P9.1: found %v, with a path of %d", ok, len(f.Path))
	}
	if f, ok = methods.Lookup(nil, x, "a"); !ok || len(f.Path) != 1 {
		t.Errorf("P9.1: a is found %v, at %v", ok, f.Path)
	}
	if f, ok = methods.Lookup(nil, x, "in"); !ok || len(f.Path) != 1 || len(f.Type.Kids) != 2 {
		t.Errorf("P9.1: in is found %v, at %v", ok, f.Path)
	}
	if _, ok = methods.Lookup(nil, x, "y"); ok || len(methods.Set(nil, x)) != 0 {
		t.Error("P9.1: what stands nowhere is found")
	}
	if !methods.Assignable(nil, x, nested(deep), nil) || methods.Convertible(nil, x, nested(deep-1), nil) || !methods.Satisfies(nil, x, union(number(), nested(deep))) || !methods.Assignable(nil, x, face(""), nil) {
		t.Error("P9.5: deep types are not given as they should be")
	}
}

// row is declared types N0, N1, .., of each of which the function tells what it was declared as.
func row(count int, under func(i int) api.Type, names ...string) []api.Named {
	var out []api.Named
	for i := range count {
		out = append(out, with(fmt.Sprint("N", i), under(i)))
	}
	out[count-1] = with(fmt.Sprint("N", count-1), fields("x", number()), names...)
	return out
}

func TestManyWays(t *testing.T) {
	// Each holds the next one twice: 2^4999 ways to the last.
	const count = 5000
	w := world(t, row(count, func(i int) api.Type {
		next := declared(fmt.Sprint("N", i+1))
		return fields("+a +b", next, next)
	}, "M", "*P")...)
	f, ok := methods.Lookup(w, declared("N0"), "x")
	if !ok || len(f.Path) != count || f.Owner != "N4999" {
		t.Errorf("P9.1: x is found %v, of %s, with a path of %d", ok, f.Owner, len(f.Path))
	}
	for i, number := range f.Path {
		if number != 0 {
			t.Fatalf("P9.1: the path has %d at %d", number, i)
		}
	}
	if got := showSet(methods.Set(w, to(declared("N0")))); got != "M() *P(int)" {
		t.Errorf("P9.2: Set(*N0) is %s", got)
	}
	if !methods.Implements(w, declared("N0"), face("M", fn(0))) || methods.Implements(w, declared("N0"), face("P", fn(1, number()))) {
		t.Error("P9.3: N0 has not the methods of the last one")
	}
}

func TestManyMembers(t *testing.T) {
	// A name for each of many methods, at two depths.
	const count = 20000
	var names []string
	inner := with("In", number())
	for i := range count {
		names = append(names, fmt.Sprintf("m%05d", i))
		inner.Methods = append(inner.Methods, api.Method{Name: fmt.Sprintf("m%05d", i+count/2), Sig: fn(0)})
	}
	out := api.Named{Name: "Out", Under: fields("+In", declared("In"))}
	for _, name := range names {
		out.Methods = append(out.Methods, api.Method{Name: name, Ptr: true, Sig: fn(0)})
	}
	w, err := types.New([]api.Named{inner, out})
	if err != api.OK {
		t.Fatal(err)
	}
	if set := methods.Set(w, declared("Out")); len(set) != count/2 || set[0].Name != "m20000" {
		t.Errorf("P9.2: Set(Out) has %d methods", len(set))
	}
	all := methods.Set(w, to(declared("Out")))
	if len(all) != count+count/2 || !all[count-1].Ptr || all[count].Ptr {
		t.Fatalf("P9.2: Set(*Out) has %d methods", len(all))
	}
	face := of(api.TypeInterface)
	for _, m := range all {
		face.Names, face.Kids = append(face.Names, m.Name), append(face.Kids, m.Sig)
	}
	if !methods.Implements(w, to(declared("Out")), face) || methods.Implements(w, declared("Out"), face) {
		t.Error("P9.3: a pointer alone has all of them")
	}
}
