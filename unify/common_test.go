package unify_test

import (
	"fmt"
	"math/rand/v2"
	"strings"

	"recast/api"
	"recast/types"
	"recast/unify"
)

func number() api.Type   { return api.Type{Kind: api.TypeInt} }
func text() api.Type     { return api.Type{Kind: api.TypeString} }
func truth() api.Type    { return api.Type{Kind: api.TypeBool} }
func nothing() api.Type  { return api.Type{Kind: api.TypeNil} }
func constInt() api.Type { return api.Type{Kind: api.TypeConstInt} }
func constStr() api.Type { return api.Type{Kind: api.TypeConstStr} }
func constYes() api.Type { return api.Type{Kind: api.TypeConstBool} }

// of is a type of kids.
func of(kind int, kids ...api.Type) api.Type { return api.Type{Kind: kind, Kids: kids} }

// to is a pointer.
func to(t api.Type) api.Type { return of(api.TypePointer, t) }

// list is a slice.
func list(t api.Type) api.Type { return of(api.TypeSlice, t) }

// pipe is a channel.
func pipe(t api.Type) api.Type { return of(api.TypeChan, t) }

// tuple is what a call of several results leaves.
func tuple(kids ...api.Type) api.Type { return of(api.TypeTuple, kids...) }

// declared is a TypeNamed.
func declared(name string) api.Type { return api.Type{Kind: api.TypeNamed, Name: name} }

// fn is a function with n parameters.
func fn(n int, kids ...api.Type) api.Type { return api.Type{Kind: api.TypeFunc, N: n, Kids: kids} }

// takes is a function of parameters alone.
func takes(kids ...api.Type) api.Type { return fn(len(kids), kids...) }

// many is a function of parameters alone, of which the last takes any number.
func many(kids ...api.Type) api.Type {
	t := takes(kids...)
	t.Flag = true
	return t
}

// fields is a struct; a name that begins with a + is that of an embedded field.
func fields(names string, kids ...api.Type) api.Type {
	t := api.Type{Kind: api.TypeStruct, Kids: kids}
	for _, name := range strings.Fields(names) {
		bare, embedded := strings.CutPrefix(name, "+")
		t.Names, t.Marks = append(t.Names, bare), append(t.Marks, embedded)
	}
	return t
}

// face is an interface.
func face(names string, kids ...api.Type) api.Type {
	return api.Type{Kind: api.TypeInterface, Names: strings.Fields(names), Kids: kids}
}

// union is a constraint.
func union(kids ...api.Type) api.Type { return of(api.TypeUnion, kids...) }

// anyEqual is the constraint comparable.
func anyEqual() api.Type { return api.Type{Kind: api.TypeUnion, N: 1} }

// param is the type parameter of a number.
func param(n int, constraint ...api.Type) api.Type {
	return api.Type{Kind: api.TypeParam, Name: fmt.Sprint("T", n), N: n, Kids: constraint}
}

// params is type parameters with these constraints.
func params(constraints ...api.Type) []api.Type {
	var out []api.Type
	for i, c := range constraints {
		out = append(out, param(i, c))
	}
	return out
}

// anyOnes is so many type parameters that may be anything.
func anyOnes(count int) []api.Type {
	var out []api.Type
	for i := range count {
		out = append(out, param(i, face("")))
	}
	return out
}

// argsOf is arguments of types.
func argsOf(l ...api.Type) []unify.Arg {
	var out []unify.Arg
	for _, t := range l {
		out = append(out, unify.Arg{Type: t})
	}
	return out
}

// dump is all that a type is, as a text; lists of no items, nil or not, are the same.
func dump(t api.Type) string {
	out := fmt.Sprintf("%d %q %d %v %q %v(", t.Kind, t.Name, t.N, t.Flag, t.Names, t.Marks)
	for _, k := range t.Kids {
		out += dump(k)
	}
	return out + ")"
}

// dumpAll is all that types are.
func dumpAll(l []api.Type) string {
	out := ""
	for _, t := range l {
		out += dump(t) + "; "
	}
	return out
}

// show is types in short; of one that is not known a question mark.
func show(l []api.Type) string {
	var out []string
	for _, t := range l {
		if t.Kind == 0 {
			out = append(out, "?")
		} else {
			out = append(out, types.Text(t))
		}
	}
	return strings.Join(out, ", ")
}

// pick is one of a list.
func pick[T any](random *rand.Rand, l ...T) T { return l[random.IntN(len(l))] }

// some is a type by chance, at most so deep, in which type parameters of the numbers -1 to 4 stand; odd: also such
// as no source has.
func some(random *rand.Rand, deep int, odd bool) api.Type {
	t := pick(random, number(), text(), truth(), declared("T"), declared("U"), param(random.IntN(3), face("")), param(random.IntN(6)-1))
	if deep > 0 && random.IntN(4) > 0 {
		a, b := some(random, deep-1, odd), some(random, deep-1, odd)
		t = pick(random, to(a), list(a), pipe(a), takes(), takes(a), takes(a, b), fn(1, a, b), fn(0, a, b), many(a), many(a, list(b)),
			fields("x", a), fields("x y", a, b), fields("+x y", a, b), fields("x +y", a, b), fields(""),
			face("M", takes(a)), face("M N", takes(a), fn(0, b)), face(""), union(a, b), param(3, union(a, b)))
	}
	if odd && random.IntN(6) == 0 {
		spoilt(random, &t)
	}
	return t
}

// spoilt makes a type another one, which no source need have.
func spoilt(random *rand.Rand, t *api.Type) {
	switch random.IntN(8) {
	case 0:
		t.Kids = t.Kids[:random.IntN(len(t.Kids)+1)]
	case 1:
		t.Kids = append(t.Kids[:len(t.Kids):len(t.Kids)], number())
	case 2:
		t.Names = append(t.Names[:random.IntN(len(t.Names)+1):len(t.Names)], "M")
	case 3:
		t.Marks = append(t.Marks[:random.IntN(len(t.Marks)+1):len(t.Marks)], true)
	case 4:
		t.N = pick(random, -1<<63, -1, 0, 1, 2, 1<<63-1)
	case 5:
		t.Kind = pick(random, -1<<63, -1, 0, 18, 1<<63-1)
	case 6:
		*t = pick(random, nothing(), tuple(), tuple(number()), constInt(), constStr(), constYes())
	case 7:
		t.Flag = !t.Flag
	}
}
