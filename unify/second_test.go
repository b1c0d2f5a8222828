package unify_test

import (
	"math/rand/v2"
	"slices"
	"testing"

	"recast/api"
	"recast/methods"
	"recast/types"
	"recast/unify"
)

// The answers are held here against those of a second reading of the chapter, of types by chance: it writes down
// all places of the parameter's type ahead of looking at the argument's.

// place is a part of a type, and the numbers of the Kids that lead to it.
type place struct {
	way  []int
	part api.Type
}

// places is all parts of a type in order, but those within type parameters that count.
func places(t api.Type, count int, way ...int) []place {
	out := []place{{slices.Clone(way), t}}
	if counts(t, count) {
		return out
	}
	for i, k := range t.Kids {
		out = append(out, places(k, count, append(slices.Clone(way), i)...)...)
	}
	return out
}

// counts tells whether a type is one of so many type parameters.
func counts(t api.Type, count int) bool {
	return t.Kind == api.TypeParam && 0 <= t.N && t.N < count
}

// at is the part of a type to which a way leads.
func at(t api.Type, way []int) api.Type {
	for _, i := range way {
		t = t.Kids[i]
	}
	return t
}

// bare is a type as a text, with as many empty Kids as it has.
func bare(t api.Type) string {
	t.Kids = make([]api.Type, len(t.Kids))
	return dump(t)
}

// mute is what says nothing of a type argument.
func mute(t api.Type) bool {
	return t.Kind >= api.TypeConstInt && t.Kind <= api.TypeNil || t.Kind == api.TypeTuple
}

// secondMatch is Match.
func secondMatch(param, arg api.Type, args []api.Type) bool {
	for _, p := range places(param, len(args)) {
		part := at(arg, p.way)
		switch {
		case mute(part):
			return false
		case !counts(p.part, len(args)):
			if bare(p.part) != bare(part) {
				return false
			}
		case args[p.part.N].Kind == 0:
			args[p.part.N] = part
		case !types.Identical(part, args[p.part.N]):
			return false
		}
	}
	return true
}

// meets is the types of parameters that so many arguments meet; false, if the number does not suit.
func meets(sig api.Type, count int) ([]api.Type, bool) {
	out := slices.Clone(sig.Kids[:sig.N])
	if !sig.Flag {
		return out, count == len(out)
	}
	last := out[len(out)-1]
	if last.Kind == api.TypeSlice {
		last = append(last.Kids[:len(last.Kids):len(last.Kids)], api.Type{})[0]
	}
	out = out[:len(out)-1]
	if count < len(out) {
		return nil, false
	}
	for len(out) < count {
		out = append(out, last)
	}
	return out, true
}

// hasOne tells whether a type parameter stands in a type.
func hasOne(t api.Type) bool {
	return t.Kind == api.TypeParam || slices.ContainsFunc(t.Kids, hasOne)
}

// secondInfer is Infer of a sig that may be.
func secondInfer(w *types.World, sig api.Type, params, given []api.Type, args []unify.Arg) ([]api.Type, api.Errno) {
	wanted, suits := meets(sig, len(args))
	if len(given) > len(params) || !suits {
		return nil, api.ErrArg
	}
	known := append(slices.Clone(given), make([]api.Type, len(params)-len(given))...)
	for i, a := range args {
		if !mute(a.Type) && hasOne(wanted[i]) && !secondMatch(wanted[i], a.Type, known) {
			return nil, api.ErrKind
		}
	}
	for i, a := range args {
		if d := types.Default(a.Type); d.Kind != a.Type.Kind && counts(wanted[i], len(params)) && known[wanted[i].N].Kind == 0 {
			known[wanted[i].N] = d
		}
	}
	for _, k := range known {
		if k.Kind == 0 {
			return nil, api.ErrNone
		}
	}
	for i, k := range known {
		if !methods.Satisfies(w, k, types.Subst(params[i].Kids[0], known)) {
			return nil, api.ErrKind
		}
	}
	return known, api.OK
}

// plain is a type by chance that may be a type argument.
func plain(random *rand.Rand) api.Type {
	return pick(random, number(), text(), truth(), declared("T"), list(number()), to(declared("U")), takes(number()), param(random.IntN(3), union(number())), param(9, face("")))
}

// replaced is a type with another in the place of one of its parts.
func replaced(random *rand.Rand, t, by api.Type) api.Type {
	if len(t.Kids) == 0 || random.IntN(3) == 0 {
		return by
	}
	t.Kids = slices.Clone(t.Kids)
	i := random.IntN(len(t.Kids))
	t.Kids[i] = replaced(random, t.Kids[i], by)
	return t
}

// answering is a type by chance that matches another, or nearly, or not at all.
func answering(random *rand.Rand, t api.Type, args []api.Type, odd bool) api.Type {
	out := types.Subst(t, args)
	switch random.IntN(8) {
	case 0:
		out = replaced(random, out, some(random, 2, odd))
	case 1:
		out = some(random, 2, odd)
	case 2:
		x := at(out, nil)
		spoilt(random, &x)
		out = replaced(random, out, x)
	case 3:
		out = pick(random, nothing(), tuple(), tuple(number()), constInt(), constStr(), constYes())
	}
	return out
}

// someArgs is so many type arguments by chance, and those of them that are known.
func someArgs(random *rand.Rand, count int) (all, known []api.Type) {
	for range count {
		x := plain(random)
		all = append(all, x)
		known = append(known, pick(random, x, api.Type{}, api.Type{}, api.Type{}, plain(random)))
	}
	return all, known
}

func TestMatchAsRead(t *testing.T) {
	random := rand.New(rand.NewPCG(11, 1))
	met := map[bool]int{}
	for i := range 30000 {
		odd := i%3 == 0
		p := some(random, 4, odd)
		all, known := someArgs(random, random.IntN(4))
		a := answering(random, p, all, odd)
		got, want := slices.Clone(known), slices.Clone(known)
		ok, wanted := unify.Match(p, a, got), secondMatch(p, a, want)
		if ok != wanted || dumpAll(got) != dumpAll(want) {
			t.Fatalf("P11.1: Match(%s,\n%s,\n%s) is %v, args %s;\nwant %v, args %s", dump(p), dump(a), dumpAll(known), ok, dumpAll(got), wanted, dumpAll(want))
		}
		met[ok]++
	}
	if met[true] < 3000 || met[false] < 3000 {
		t.Errorf("chance gave %v", met)
	}
}

// someParams is so many type parameters by chance.
func someParams(random *rand.Rand, count int) []api.Type {
	var out []api.Type
	for i := range count {
		out = append(out, param(i, pick(random, face(""), face(""), face(""), union(number(), text(), truth()), anyEqual(), face("M", takes()), union(param(0), param(1)), declared("I"))))
	}
	return out
}

// someSig is a function by chance.
func someSig(random *rand.Rand, odd bool) api.Type {
	var l []api.Type
	for range 1 + random.IntN(3) {
		l = append(l, pick(random, some(random, 2, odd), param(random.IntN(3), face(""))))
	}
	n := len(l)
	for range random.IntN(2) {
		l = append(l, some(random, 1, odd))
	}
	if random.IntN(3) > 0 {
		return fn(n, l...)
	}
	if random.IntN(4) > 0 {
		l[n-1] = list(l[n-1])
	}
	return api.Type{Kind: api.TypeFunc, N: n, Flag: true, Kids: l}
}

// someCall is arguments by chance of a function.
func someCall(random *rand.Rand, sig api.Type, all []api.Type, odd bool) []unify.Arg {
	count := sig.N
	if sig.Flag {
		count += random.IntN(4) - 1
	}
	if random.IntN(20) == 0 {
		count = random.IntN(5)
	}
	wanted, _ := meets(sig, count)
	var out []unify.Arg
	for i := range count {
		t := plain(random)
		if i < len(wanted) && random.IntN(12) > 0 {
			t = types.Subst(wanted[i], all)
		}
		if i < len(wanted) && random.IntN(6) == 0 {
			t = answering(random, wanted[i], all, odd)
		}
		if random.IntN(4) == 0 {
			t = pick(random, nothing(), tuple(number()), constInt(), constStr(), constYes())
		}
		out = append(out, unify.Arg{Type: t, Const: pick(random, nil, &api.Const{Kind: api.TypeInt})})
	}
	return out
}

func TestInferAsRead(t *testing.T) {
	random := rand.New(rand.NewPCG(11, 2))
	w := world(t,
		api.Named{Name: "T", Under: number(), Methods: []api.Method{{Name: "M", Sig: takes()}}},
		api.Named{Name: "U", Under: fields("x", list(number()))},
		api.Named{Name: "I", Under: face("M", takes())},
	)
	met := map[api.Errno]int{}
	for i := range 30000 {
		odd := i%3 == 0
		sig, tparams := someSig(random, odd), someParams(random, random.IntN(4))
		all, known := someArgs(random, len(tparams))
		given := known[:random.IntN(len(known)+1)]
		if random.IntN(30) == 0 {
			given = append(slices.Clone(known), number())
		}
		args := someCall(random, sig, all, odd)
		got, err := unify.Infer(w, sig, tparams, given, args)
		want, wanted := secondInfer(w, sig, tparams, given, args)
		if err != wanted || dumpAll(got) != dumpAll(want) {
			t.Fatalf("P11.2: Infer(%s, %s, %s, %v) is %s, %d; want %s, %d", types.Text(sig), dumpAll(tparams), show(given), args, dumpAll(got), err, dumpAll(want), wanted)
		}
		met[err]++
		checkFollows(t, sig, tparams, given, args, got, err)
	}
	for _, err := range []api.Errno{api.OK, api.ErrArg, api.ErrNone, api.ErrKind} {
		if met[err] < 300 {
			t.Errorf("chance gave %v", met)
		}
	}
}

// checkFollows holds an answer to what follows from the promises.
func checkFollows(t *testing.T, sig api.Type, tparams, given []api.Type, args []unify.Arg, got []api.Type, err api.Errno) {
	t.Helper()
	if err != api.OK {
		if len(got) != 0 {
			t.Fatalf("rule 2: beside the error %d stands %s", err, show(got))
		}
		return
	}
	if len(got) != len(tparams) {
		t.Fatalf("P11.2: %d type parameters, %d arguments", len(tparams), len(got))
	}
	for i, g := range given {
		if g.Kind != 0 && dump(g) != dump(got[i]) {
			t.Fatalf("P11.2: %s was given, %s answered", dump(g), dump(got[i]))
		}
	}
	wanted, _ := meets(sig, len(args))
	for i, a := range args {
		if mute(a.Type) || !hasOne(wanted[i]) || noKind(a.Type) {
			continue
		}
		if is := types.Subst(wanted[i], got); !types.Identical(is, a.Type) {
			t.Fatalf("P11.3: with the arguments %s the parameter is %s, which %s matched", show(got), dump(is), dump(a.Type))
		}
	}
}

// noKind tells whether a part of a type has the Kind of what is not known.
func noKind(t api.Type) bool { return t.Kind == 0 || slices.ContainsFunc(t.Kids, noKind) }
