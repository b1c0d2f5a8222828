package methods_test

import (
	"fmt"
	"math/rand/v2"
	"strings"
	"testing"

	"recast/api"
	"recast/methods"
	"recast/types"
)

func number() api.Type  { return api.Type{Kind: api.TypeInt} }
func text() api.Type    { return api.Type{Kind: api.TypeString} }
func truth() api.Type   { return api.Type{Kind: api.TypeBool} }
func nothing() api.Type { return api.Type{Kind: api.TypeNil} }

// of is a type of kids.
func of(kind int, kids ...api.Type) api.Type { return api.Type{Kind: kind, Kids: kids} }

// to is a pointer.
func to(t api.Type) api.Type { return of(api.TypePointer, t) }

// list is a slice.
func list(t api.Type) api.Type { return of(api.TypeSlice, t) }

// union is a constraint.
func union(kids ...api.Type) api.Type { return of(api.TypeUnion, kids...) }

// anyEqual is the constraint comparable.
func anyEqual() api.Type { return api.Type{Kind: api.TypeUnion, N: 1} }

// declared is a TypeNamed.
func declared(name string) api.Type { return api.Type{Kind: api.TypeNamed, Name: name} }

// fn is a function with n parameters.
func fn(n int, kids ...api.Type) api.Type { return api.Type{Kind: api.TypeFunc, N: n, Kids: kids} }

// fields is a struct; a name that begins with a + is that of an embedded field.
func fields(names string, kids ...api.Type) api.Type {
	t := api.Type{Kind: api.TypeStruct, Kids: kids}
	for _, name := range strings.Fields(names) {
		bare, embedded := strings.CutPrefix(name, "+")
		t.Names, t.Marks = append(t.Names, bare), append(t.Marks, embedded)
	}
	return t
}

// face is an interface.
func face(names string, kids ...api.Type) api.Type {
	return api.Type{Kind: api.TypeInterface, Names: strings.Fields(names), Kids: kids}
}

// param is a type parameter.
func param(name string, n int, constraint ...api.Type) api.Type {
	return api.Type{Kind: api.TypeParam, Name: name, N: n, Kids: constraint}
}

// with is a declared type with methods, of which those whose names begin with a * have a pointer as their
// receiver; the method number i has i ints as parameters.
func with(name string, under api.Type, names ...string) api.Named {
	n := api.Named{Name: name, Under: under}
	for i, m := range names {
		bare, ptr := strings.CutPrefix(m, "*")
		sig := fn(i)
		for range i {
			sig.Kids = append(sig.Kids, number())
		}
		n.Methods = append(n.Methods, api.Method{Name: bare, Ptr: ptr, Sig: sig})
	}
	return n
}

// world is the one of declared types that must be taken.
func world(t *testing.T, named ...api.Named) *types.World {
	t.Helper()
	w, err := types.New(named)
	if w == nil || err != api.OK {
		t.Fatalf("New is %v, %d", w, err)
	}
	return w
}

// dump is all that a type is, as a text; lists of no items, nil or not, are the same.
func dump(t api.Type) string {
	out := fmt.Sprintf("%d %q %d %v %q %v(", t.Kind, t.Name, t.N, t.Flag, t.Names, t.Marks)
	for _, k := range t.Kids {
		out += dump(k)
	}
	return out + ")"
}

// show is all that was found, in short.
func show(f methods.Found, ok bool) string {
	if !ok {
		if f.Kind != 0 || f.Owner != "" || dump(f.Type) != dump(api.Type{}) || len(f.Path) > 0 || f.Ptr || f.Deref {
			return fmt.Sprintf("none, but %+v", f)
		}
		return "none"
	}
	kind := map[int]string{api.ObjField: "field", api.ObjMethod: "method", api.ObjIMethod: "imethod"}[f.Kind]
	out := fmt.Sprintf("%s of %q, %s, at %v", kind, f.Owner, types.Text(f.Type), f.Path)
	if f.Ptr {
		out += ", ptr"
	}
	if f.Deref {
		out += ", deref"
	}
	return out
}

// showSet is a type's methods, in short.
func showSet(l []api.Method) string {
	var out []string
	for _, m := range l {
		mark := ""
		if m.Ptr {
			mark = "*"
		}
		out = append(out, mark+m.Name+strings.TrimPrefix(types.Text(m.Sig), "func"))
	}
	return strings.Join(out, " ")
}

// pick is one of a list.
func pick[T any](random *rand.Rand, l ...T) T { return l[random.IntN(len(l))] }

// someNames is the declared types of worlds by chance.
func someNames() []string { return []string{"T", "U", "V", "W", "", "main.X", "Y"} }

// members is the names of what stands in types by chance.
func members() []string { return []string{"M", "N", "x", "y", "U", "", "q"} }

// some is a type by chance, at most so deep; odd: also such as no source has.
func some(random *rand.Rand, deep int, odd bool) api.Type {
	t := api.Type{Kind: 1 + random.IntN(8)}
	if random.IntN(3) == 0 {
		t.Kind = api.TypeNamed
	}
	if deep > 0 && random.IntN(3) > 0 {
		t.Kind = pick(random, 9, 10, 10, 11, 12, 13, 14, 14, 14, 14, 15, 15, 16, 17)
	}
	switch t.Kind {
	case api.TypeNamed:
		t.Name = pick(random, someNames()...)
	case api.TypeParam:
		t.Name, t.N = pick(random, "A", "B"), random.IntN(2)
		t.Kids = []api.Type{pick(random, union(number()), union(number(), text()), union(truth()), union(), anyEqual(), some(random, 1, odd), someFace(random), declared(pick(random, someNames()...)))}
	case api.TypePointer, api.TypeSlice, api.TypeChan:
		t.Kids = []api.Type{some(random, deep-1, odd)}
	case api.TypeStruct:
		for range random.IntN(5) {
			k := some(random, deep-1, odd)
			t.Kids, t.Names = append(t.Kids, k), append(t.Names, pick(random, members()...))
			t.Marks = append(t.Marks, random.IntN(4) > 0)
		}
	case api.TypeInterface:
		t = someFace(random)
	case api.TypeFunc:
		t = someSig(random)
	case api.TypeUnion, api.TypeTuple:
		for range random.IntN(3) {
			t.Kids = append(t.Kids, pick(random, number(), text(), truth()))
		}
	}
	if odd && random.IntN(4) == 0 {
		spoilt(random, &t)
	}
	return t
}

// someSig is a method's type by chance: one of few, so that two are often identical.
func someSig(random *rand.Rand) api.Type {
	return pick(random, fn(0), fn(0), fn(1, number()), fn(0, number()), fn(1, param("A", 0)))
}

// someFace is an interface by chance.
func someFace(random *rand.Rand) api.Type {
	t := of(api.TypeInterface)
	for _, name := range []string{"M", "N", "y"} {
		if random.IntN(3) == 0 {
			t.Names, t.Kids = append(t.Names, name), append(t.Kids, someSig(random))
		}
	}
	return t
}

// spoilt makes a type one that no source has.
func spoilt(random *rand.Rand, t *api.Type) {
	switch random.IntN(6) {
	case 0:
		t.Kids = t.Kids[:random.IntN(len(t.Kids)+1)]
	case 1:
		t.Kids = append(t.Kids, number())
	case 2:
		t.Names = append(t.Names[:random.IntN(len(t.Names)+1)], "M")
	case 3:
		t.Marks = append(t.Marks[:random.IntN(len(t.Marks)+1)], true)
	case 4:
		t.N = pick(random, -1<<63, -1, 0, 1, 2, 1<<63-1)
	case 5:
		t.Kind = pick(random, -1<<63, -1, 0, 18, 1<<63-1)
	}
}

// someWorld is declared types by chance, which a World takes.
func someWorld(random *rand.Rand, odd bool) ([]api.Named, *types.World) {
	for {
		var l []api.Named
		for _, name := range someNames() {
			n := api.Named{Name: name, Under: some(random, 1+random.IntN(3), odd)}
			for range random.IntN(3) {
				n.Methods = append(n.Methods, api.Method{Name: pick(random, members()...), Ptr: random.IntN(2) == 0, Sig: someSig(random)})
			}
			l = append(l, n)
		}
		if w, err := types.New(l); err == api.OK {
			return l, w
		}
	}
}
