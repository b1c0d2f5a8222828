package unify_test

import (
	"fmt"
	"math/rand/v2"
	"slices"
	"testing"

	"recast/api"
	"recast/unify"
)

// room is where the items of lists stand, spare room too.
type room struct {
	types map[*api.Type]int
	names map[*string]int
	marks map[*bool]int
}

func noRoom() room {
	return room{map[*api.Type]int{}, map[*string]int{}, map[*bool]int{}}
}

// claim notes the places of a list's items, and tells whether all are new.
func claim[T any](seen map[*T]int, l []T) bool {
	l = l[:cap(l)]
	for i := range l {
		if seen[&l[i]]++; seen[&l[i]] > 1 {
			return false
		}
	}
	return true
}

// take notes the places of all lists of types, and tells whether all are new.
func (r room) take(l ...api.Type) bool {
	for _, t := range l {
		if !claim(r.types, t.Kids) || !claim(r.names, t.Names) || !claim(r.marks, t.Marks) || !r.take(t.Kids...) {
			return false
		}
	}
	return true
}

// roomy is a type in new memory, with spare room in each list, in which something stands.
func roomy(t api.Type) api.Type {
	kids := make([]api.Type, 0, len(t.Kids)+2)
	for _, k := range t.Kids {
		kids = append(kids, roomy(k))
	}
	t.Kids = append(kids, of(77), of(78, number()))[:len(t.Kids)]
	t.Names = append(append(make([]string, 0, len(t.Names)+1), t.Names...), "spare")[:len(t.Names)]
	t.Marks = append(append(make([]bool, 0, len(t.Marks)+1), t.Marks...), true)[:len(t.Marks)]
	return t
}

// roomyAll is types in new memory, in a list with spare room.
func roomyAll(l []api.Type) []api.Type { return roomy(of(0, l...)).Kids }

// whole is a type with what stands in the spare room of its lists.
func whole(t api.Type) string {
	kids := t.Kids[:cap(t.Kids)]
	t.Names, t.Marks, t.Kids = t.Names[:cap(t.Names)], t.Marks[:cap(t.Marks)], nil
	out := dump(t)
	for _, k := range kids {
		out += whole(k)
	}
	return out + ";"
}

// spoil changes all lists of a type, their spare room too.
func spoil(t api.Type) {
	for _, k := range t.Kids {
		spoil(k)
	}
	for i := range t.Kids[:cap(t.Kids)] {
		t.Kids[:cap(t.Kids)][i] = of(-9, of(-9))
	}
	for i := range t.Names[:cap(t.Names)] {
		t.Names[:cap(t.Names)][i] = "spoilt"
	}
	for i := range t.Marks[:cap(t.Marks)] {
		t.Marks[:cap(t.Marks)][i] = !t.Marks[:cap(t.Marks)][i]
	}
}

// rich is types that have all kinds of lists in them, one list at two places too.
func rich() []api.Type {
	twice := []api.Type{fields("x +y", number(), list(text()))}
	return []api.Type{
		number(), list(text()), fields("x +y", list(number()), text()), face("M N", takes(number()), takes(list(text()))),
		takes(of(api.TypeSlice, twice...), of(api.TypeSlice, twice...)), param(7, union(number(), list(text()))),
	}
}

// someMatch is what may be handed in to Match, by chance, with lists that stand at several places.
func someMatch(random *rand.Rand, odd bool) (wanted, arg api.Type, known []api.Type) {
	l := rich()
	all := []api.Type{pick(random, l...), pick(random, l...), pick(random, l...)}
	p := pick(random, some(random, 3, odd), takes(param(0), param(1), list(param(2)), param(0)), param(1))
	a := answering(random, p, all, odd)
	if random.IntN(2) == 0 {
		p, a = fn(2, p, p, param(0), param(1)), fn(2, a, a, all[0], all[0])
	}
	if random.IntN(2) == 0 {
		a = roomy(a)
	}
	return roomy(p), a, pick(random, nil, all[:1], all)
}

func TestMatchMemory(t *testing.T) {
	random := rand.New(rand.NewPCG(11, 3))
	for i := range 3000 {
		p, a, known := someMatch(random, i%3 == 0)
		args := roomyAll(append(slices.Clone(known), make([]api.Type, 3-len(known))...))
		again := roomyAll(args)
		spare := args[3:cap(args)]
		was, wasSpare, wasKnown := whole(p)+whole(a), whole(api.Type{Kids: spare}), whole(api.Type{Kids: args[:len(known):len(known)]})
		unify.Match(p, a, args)
		unify.Match(p, a, again)
		if whole(p)+whole(a) != was {
			t.Fatalf("P11.3: the types became\n%s%s\nwere\n%s", whole(p), whole(a), was)
		}
		if whole(api.Type{Kids: spare}) != wasSpare || whole(api.Type{Kids: args[:len(known):len(known)]}) != wasKnown {
			t.Fatalf("P11.3: what stands behind args, or was known, became %s", dumpAll(args))
		}
		told := dumpAll(again)
		if r := noRoom(); dumpAll(args) != told || !r.take(args[len(known):]...) || !r.take(again[len(known):]...) {
			t.Fatalf("P11.3: what Match(%s, %s) wrote shares memory", dump(p), dump(a))
		}
		spoil(api.Type{Kids: args})
		if whole(p)+whole(a) != was {
			t.Fatalf("P11.3: by what Match wrote, the types became\n%s%s\nwere\n%s", whole(p), whole(a), was)
		}
		spoil(p)
		spoil(a)
		if dumpAll(again) != told {
			t.Fatalf("P11.3: what Match wrote became\n%s\nwas\n%s", dumpAll(again), told)
		}
	}
}

// args may be the memory in which a part of the types stands.
func TestMatchSharedArgs(t *testing.T) {
	// args is the list of the argument's Kids.
	args := []api.Type{number(), {}}
	if !unify.Match(takes(param(1), of(0)), of2(args), args) || show(args) != "int, int" {
		t.Errorf("rule 4: Match of an argument that stands in args leaves %s", show(args))
	}
	// args is the list of the parameter's Kids.
	args = []api.Type{param(1), {}}
	if !unify.Match(of2(args), takes(number(), of(0)), args) || show(args) != "T1, int" {
		t.Errorf("rule 4: Match of a parameter that stands in args leaves %s", show(args))
	}
	// What was written does not change with the argument.
	arg := takes(list(number()), fields("x", text()))
	args = unset(2)
	unify.Match(takes(param(0), param(1)), arg, args)
	spoil(arg)
	if show(args) != "[]int, struct { x string }" {
		t.Errorf("P11.3: what was written became %s", show(args))
	}
	// And nothing behind args is written to.
	all := []api.Type{{}, {}, {}}
	if unify.Match(takes(param(0), param(1)), takes(number(), text()), all[:1]) || show(all) != "int, ?, ?" {
		t.Errorf("P11.1: args and what stands behind them are %s", show(all))
	}
}

// of2 is a function of two parameters, whose list it keeps.
func of2(kids []api.Type) api.Type { return api.Type{Kind: api.TypeFunc, N: 2, Kids: kids} }

// wholeCall is all that is handed in to Infer.
func wholeCall(sig api.Type, params, given []api.Type, args []unify.Arg) string {
	out := whole(sig) + whole(of(0, params...)) + whole(api.Type{Kids: params}) + whole(api.Type{Kids: given})
	for _, a := range args[:cap(args)] {
		out += whole(a.Type)
		if a.Const != nil {
			out += fmt.Sprint(*a.Const)
		}
	}
	return out
}

func TestInferMemory(t *testing.T) {
	random := rand.New(rand.NewPCG(11, 4))
	answered := 0
	for i := range 3000 {
		odd, l := i%3 == 0, rich()
		all := []api.Type{pick(random, l...), pick(random, l...), pick(random, l...)}
		sig, tparams := roomy(someSig(random, odd)), roomyAll(anyOnes(3))
		given := roomyAll(all[:random.IntN(4)])
		args := slices.Grow(someCall(random, sig, all, odd), 2)
		for i := range args {
			if random.IntN(2) == 0 {
				args[i].Type = roomy(args[i].Type)
			}
			args[i].Const = &api.Const{Kind: api.TypeInt, Num: api.Int{Mag: []uint32{7, 8}}}
		}
		was := wholeCall(sig, tparams, given, args)
		got, err := unify.Infer(nil, sig, tparams, given, args)
		again, errAgain := unify.Infer(nil, sig, tparams, given, args)
		if wholeCall(sig, tparams, given, args) != was {
			t.Fatalf("P11.3: what was handed in became\n%s\nwas\n%s", wholeCall(sig, tparams, given, args), was)
		}
		if err != errAgain || dumpAll(got) != dumpAll(again) {
			t.Fatalf("rule 4: Infer is %s, %d, then %s, %d", show(got), err, show(again), errAgain)
		}
		if r := noRoom(); !claim(r.types, got) || !r.take(got...) {
			t.Fatalf("P11.3: what Infer answers shares memory: %s", show(got))
		}
		told := dumpAll(again)
		spoil(api.Type{Kids: got})
		if wholeCall(sig, tparams, given, args) != was {
			t.Fatalf("P11.3: by what Infer answered, what was handed in became\n%s\nwas\n%s", wholeCall(sig, tparams, given, args), was)
		}
		spoil(sig)
		spoil(api.Type{Kids: tparams})
		spoil(api.Type{Kids: given})
		for _, a := range args {
			spoil(a.Type)
		}
		if dumpAll(again) != told {
			t.Fatalf("P11.3: by what was handed in, the answer became\n%s\nwas\n%s", dumpAll(again), told)
		}
		if err == api.OK {
			answered++
		}
	}
	if answered < 500 {
		t.Errorf("chance gave %d answers", answered)
	}
}
