package types_test

import (
	"fmt"
	"math/rand/v2"
	"strings"
	"testing"

	"recast/api"
	"recast/types"
)

func number() api.Type { return api.Type{Kind: api.TypeInt} }
func text() api.Type   { return api.Type{Kind: api.TypeString} }
func truth() api.Type  { return api.Type{Kind: api.TypeBool} }

// of is a type of kids, made without the calls that are tested.
func of(kind int, kids ...api.Type) api.Type { return api.Type{Kind: kind, Kids: kids} }

// declared is a TypeNamed.
func declared(name string) api.Type { return api.Type{Kind: api.TypeNamed, Name: name} }

// fn is a function with n parameters.
func fn(n int, kids ...api.Type) api.Type { return api.Type{Kind: api.TypeFunc, N: n, Kids: kids} }

// many is a function whose last parameter is any number of.
func many(n int, kids ...api.Type) api.Type {
	return api.Type{Kind: api.TypeFunc, N: n, Flag: true, Kids: kids}
}

// fields is a struct; a name that begins with a + is that of an embedded field.
func fields(names string, kids ...api.Type) api.Type {
	t := api.Type{Kind: api.TypeStruct, Kids: kids}
	for _, name := range strings.Fields(names) {
		bare, embedded := strings.CutPrefix(name, "+")
		t.Names, t.Marks = append(t.Names, bare), append(t.Marks, embedded)
	}
	return t
}

// face is an interface.
func face(names string, kids ...api.Type) api.Type {
	return api.Type{Kind: api.TypeInterface, Names: strings.Fields(names), Kids: kids}
}

// param is a type parameter.
func param(name string, n int, constraint ...api.Type) api.Type {
	return api.Type{Kind: api.TypeParam, Name: name, N: n, Kids: constraint}
}

// anyEqual is the constraint comparable.
func anyEqual(kids ...api.Type) api.Type { return api.Type{Kind: api.TypeUnion, N: 1, Kids: kids} }

// names is declared types: name, what it was declared as, name ..
func names(l ...any) []api.Named {
	var out []api.Named
	for i := 0; i+1 < len(l); i += 2 {
		out = append(out, api.Named{Name: l[i].(string), Under: l[i+1].(api.Type)})
	}
	return out
}

// with is a declared type with methods.
func with(name string, under api.Type, sigs ...api.Type) api.Named {
	n := api.Named{Name: name, Under: under}
	for i, s := range sigs {
		n.Methods = append(n.Methods, api.Method{Name: fmt.Sprint("m", i), Ptr: i%2 == 1, Sig: s})
	}
	return n
}

// world is the one of declared types that must be taken.
func world(t *testing.T, named []api.Named) *types.World {
	t.Helper()
	w, err := types.New(named)
	if w == nil || err != api.OK {
		t.Fatalf("P8.5: New(%s) is %v, %d", dumpAll(named), w, err)
	}
	return w
}

// dump is all that a type is, as a text; lists of no items, nil or not, are the same.
func dump(t api.Type) string {
	out := fmt.Sprintf("%d %q %d %v %q %v(", t.Kind, t.Name, t.N, t.Flag, t.Names, t.Marks)
	for _, k := range t.Kids {
		out += dump(k)
	}
	return out + ")"
}

// dumpNamed is all that a declared type is, as a text.
func dumpNamed(n api.Named) string {
	out := fmt.Sprintf("%q = %s:", n.Name, dump(n.Under))
	for _, m := range n.Methods {
		out += fmt.Sprintf(" %q %v %s", m.Name, m.Ptr, dump(m.Sig))
	}
	return out
}

func dumpAll(l []api.Named) string {
	var out []string
	for _, n := range l {
		out = append(out, dumpNamed(n))
	}
	return strings.Join(out, "\n")
}

// same wants two types to be alike in all that they are.
func same(t *testing.T, what string, got, want api.Type) {
	t.Helper()
	if dump(got) != dump(want) {
		t.Errorf("%s:\n got %s\nwant %s", what, dump(got), dump(want))
	}
}

// pick is one of a list.
func pick[T any](random *rand.Rand, l ...T) T { return l[random.IntN(len(l))] }

// some is a type as it may be, at most so deep, of the names T, U, V, W; odd: also such as no source has.
func some(random *rand.Rand, deep int, odd bool) api.Type {
	kind := 1 + random.IntN(9)
	if deep > 0 && random.IntN(3) > 0 {
		kind = 9 + random.IntN(9)
	}
	t := api.Type{Kind: kind}
	count := random.IntN(4)
	switch kind {
	case api.TypeNamed:
		return declared(pick(random, "T", "U", "V", "W"))
	case api.TypeParam:
		t.Name, t.N = pick(random, "A", "B"), random.IntN(3)
		count = 1
	case api.TypePointer, api.TypeSlice, api.TypeChan:
		count = 1
	case api.TypeFunc:
		t.N = random.IntN(count + 1)
		t.Flag = random.IntN(3) == 0
	case api.TypeUnion:
		t.N = random.IntN(2)
	case api.TypeStruct, api.TypeInterface, api.TypeTuple:
	default:
		count = 0
	}
	for i := range count {
		t.Kids = append(t.Kids, some(random, deep-1, odd))
		if kind == api.TypeStruct || kind == api.TypeInterface {
			t.Names = append(t.Names, pick(random, "x", "y", "z")+fmt.Sprint(i))
		}
		if kind == api.TypeStruct {
			t.Marks = append(t.Marks, random.IntN(3) == 0)
		}
	}
	if kind == api.TypeParam && random.IntN(3) > 0 {
		t.Kids = []api.Type{of(api.TypeUnion, t.Kids...)}
	}
	if odd && random.IntN(4) == 0 {
		spoilt(random, &t)
	}
	return t
}

// spoilt makes a type one that no source has.
func spoilt(random *rand.Rand, t *api.Type) {
	switch random.IntN(7) {
	case 0:
		t.Kids = t.Kids[:random.IntN(len(t.Kids)+1)]
	case 1:
		t.Kids = append(t.Kids, number())
	case 2:
		t.Names = append(t.Names[:random.IntN(len(t.Names)+1)], "w")
	case 3:
		t.Marks = append(t.Marks[:random.IntN(len(t.Marks)+1)], true)
	case 4:
		t.N = pick(random, -1<<63, -1, 0, 1, 2, 5, 1<<63-1)
	case 5:
		t.Flag = !t.Flag
	case 6:
		t.Kind = pick(random, -1<<63, -1, 0, 18, 99, 1<<63-1)
	}
}
