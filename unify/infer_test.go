package unify_test

import (
	"fmt"
	"testing"

	"recast/api"
	"recast/types"
	"recast/unify"
)

// inferRow is a call of Infer, and what it answers: an error, or types.
type inferRow struct {
	sig    api.Type
	params []api.Type
	given  []api.Type
	args   []unify.Arg
	err    api.Errno
	want   string
}

// checkInfer plays rows.
func checkInfer(t *testing.T, w *types.World, rows []inferRow) {
	t.Helper()
	for _, r := range rows {
		got, err := unify.Infer(w, r.sig, r.params, r.given, r.args)
		if err != r.err || show(got) != r.want {
			var args []api.Type
			for _, a := range r.args {
				args = append(args, a.Type)
			}
			t.Errorf("P11.2: Infer of %s, given %s, args %s is %s, %d; want %s, %d", types.Text(r.sig), show(r.given), show(args), show(got), err, r.want, r.err)
		}
	}
}

// world is the one of declared types that must be taken.
func world(t *testing.T, named ...api.Named) *types.World {
	t.Helper()
	w, err := types.New(named)
	if w == nil || err != api.OK {
		t.Fatalf("New is %v, %d", w, err)
	}
	return w
}

func TestInferExamples(t *testing.T) {
	one, f := anyOnes(1), takes(param(0), list(param(0)))
	checkInfer(t, world(t), []inferRow{
		{f, one, nil, argsOf(number(), list(number())), api.OK, "int"},
		{f, one, nil, argsOf(constInt(), list(text())), api.OK, "string"},
		{f, one, nil, argsOf(constInt(), nothing()), api.OK, "int"},
	})
	checkInfer(t, nil, []inferRow{
		{f, one, nil, argsOf(number(), list(number())), api.OK, "int"},
		{takes(), nil, nil, nil, api.OK, ""},
	})
	checkInfer(t, &types.World{}, []inferRow{{f, one, nil, argsOf(constInt(), nothing()), api.OK, "int"}})
}

func TestInferNumbers(t *testing.T) {
	one, p := anyOnes(1), param(0, face(""))
	l := func(count int) []unify.Arg {
		var out []unify.Arg
		for range count {
			out = append(out, unify.Arg{Type: number()})
		}
		return out
	}
	// How many args each function takes, of 0 to 5.
	for _, r := range []struct {
		sig   api.Type
		least int
		most  int
	}{
		{takes(), 0, 0}, {takes(p), 1, 1}, {takes(p, p), 2, 2}, {fn(1, p, p), 1, 1}, {fn(0, p, p), 0, 0},
		{many(list(p)), 0, 5}, {many(p, list(p)), 1, 5}, {many(p, p, list(p)), 2, 5}, {many(number(), p, list(text())), 2, 5},
		{api.Type{Kind: api.TypeFunc, N: 1, Flag: true, Kids: []api.Type{list(p), p, p}}, 0, 5},
		{api.Type{Kind: api.TypeFunc, N: 2, Flag: true, Kids: []api.Type{number(), list(p), p, p}}, 1, 5},
		// At least N - 1, which any number is: there is no type to be held against.
		{many(), 0, 5},
	} {
		for count := range 6 {
			_, err := unify.Infer(nil, r.sig, one, []api.Type{number()}, l(count))
			if want := count < r.least || count > r.most; want != (err == api.ErrArg) {
				t.Errorf("P11.2: Infer of %s with %d args is %d", types.Text(r.sig), count, err)
			}
		}
	}
	two := anyOnes(2)
	checkInfer(t, nil, []inferRow{
		// More given than there are type parameters, whatever else is wrong.
		{takes(), nil, []api.Type{number()}, nil, api.ErrArg, ""},
		{takes(p), one, []api.Type{number(), text()}, argsOf(text()), api.ErrArg, ""},
		{takes(p), one, []api.Type{number(), {}}, argsOf(number()), api.ErrArg, ""},
		{takes(p), two, []api.Type{number(), text()}, argsOf(number()), api.OK, "int, string"},
		// ErrArg is ahead of the others.
		{takes(p), two, []api.Type{text()}, argsOf(number(), number()), api.ErrArg, ""},
		{takes(p, param(1)), two, nil, argsOf(number()), api.ErrArg, ""},
	})
}

func TestInferMatches(t *testing.T) {
	p, q, one, two := param(0, face("")), param(1, face("")), anyOnes(1), anyOnes(2)
	checkInfer(t, nil, []inferRow{
		{takes(p, q), two, nil, argsOf(number(), text()), api.OK, "int, string"},
		{takes(q, p), two, nil, argsOf(number(), text()), api.OK, "string, int"},
		{takes(takes(p, q)), two, nil, argsOf(takes(number(), text())), api.OK, "int, string"},
		{takes(list(p), fn(1, p, q)), two, nil, argsOf(list(number()), fn(1, number(), text())), api.OK, "int, string"},
		{takes(p, p), one, nil, argsOf(number(), text()), api.ErrKind, ""},
		{takes(p, list(p)), one, nil, argsOf(number(), list(text())), api.ErrKind, ""},
		{takes(list(p)), one, nil, argsOf(number()), api.ErrKind, ""},
		{takes(list(p)), one, nil, argsOf(to(number())), api.ErrKind, ""},
		// One whose parameter's type has no type parameter in it is not held against that.
		{takes(number(), p), one, nil, argsOf(text(), number()), api.OK, "int"},
		{takes(list(number()), p), one, nil, argsOf(text(), number()), api.OK, "int"},
		// One that says nothing is not held against anything.
		{takes(list(p), p), one, nil, argsOf(nothing(), number()), api.OK, "int"},
		{takes(list(p), p), one, nil, argsOf(constInt(), number()), api.OK, "int"},
		{takes(list(p), p), one, nil, argsOf(constStr(), number()), api.OK, "int"},
		{takes(list(p), p), one, nil, argsOf(constYes(), number()), api.OK, "int"},
		{takes(list(p), p), one, nil, argsOf(tuple(text()), number()), api.OK, "int"},
		{takes(p, p), one, nil, argsOf(tuple(), number()), api.OK, "int"},
		// But what says nothing may stand within what says something.
		{takes(list(p)), one, nil, argsOf(list(constInt())), api.ErrKind, ""},
		// Results are no parameters.
		{fn(1, p, q), two, nil, argsOf(number()), api.ErrNone, ""},
		{fn(1, p, p), one, nil, argsOf(number()), api.OK, "int"},
		// A type parameter beyond params is one, too, which stands for itself.
		{takes(q), one, []api.Type{text()}, argsOf(number()), api.ErrKind, ""},
		{takes(q), one, []api.Type{text()}, argsOf(q), api.OK, "string"},
		{takes(list(q), p), one, nil, argsOf(list(q), number()), api.OK, "int"},
		{takes(param(-1)), one, []api.Type{text()}, argsOf(number()), api.ErrKind, ""},
		// Within a generic function its own type parameters are types.
		{takes(p, list(p)), one, nil, argsOf(q, list(q)), api.OK, "T1"},
		{takes(p, q), two, nil, argsOf(q, p), api.OK, "T1, T0"},
	})
}

func TestInferMany(t *testing.T) {
	p, one, two := param(0, face("")), anyOnes(1), anyOnes(2)
	checkInfer(t, nil, []inferRow{
		{many(list(p)), one, nil, argsOf(number()), api.OK, "int"},
		{many(list(p)), one, nil, argsOf(number(), constInt(), number(), nothing()), api.OK, "int"},
		{many(list(p)), one, nil, argsOf(constStr(), constStr(), list(text())), api.OK, "[]string"},
		{many(list(p)), one, nil, argsOf(constStr(), constInt()), api.OK, "string"},
		{many(list(p)), one, nil, argsOf(number(), number(), text()), api.ErrKind, ""},
		{many(list(p)), one, nil, nil, api.ErrNone, ""},
		{many(list(p)), one, []api.Type{number()}, nil, api.OK, "int"},
		{many(list(list(p))), one, nil, argsOf(list(number()), list(number())), api.OK, "int"},
		{many(list(list(p))), one, nil, argsOf(list(number()), number()), api.ErrKind, ""},
		{many(text(), list(p)), one, nil, argsOf(number()), api.ErrNone, ""},
		{many(text(), list(p)), one, nil, argsOf(constInt(), constInt()), api.OK, "int"},
		{many(param(1), list(p)), two, nil, argsOf(text(), number(), number()), api.OK, "int, string"},
		{many(list(param(1)), list(p)), two, nil, argsOf(list(text()), number()), api.OK, "int, string"},
		// The slice's type is without its slice for the last one alone.
		{many(list(p), list(number())), one, nil, argsOf(list(text()), text(), truth()), api.OK, "string"},
		{many(list(p), list(number())), one, nil, argsOf(text(), number()), api.ErrKind, ""},
		// One that is no slice counts as it is.
		{many(p), one, nil, argsOf(text(), text()), api.OK, "string"},
		{many(to(p)), one, nil, argsOf(to(text()), to(number())), api.ErrKind, ""},
		{many(of(api.TypeSlice)), one, []api.Type{text()}, argsOf(text(), number()), api.OK, "string"},
		{takes(list(p)), one, nil, argsOf(list(text())), api.OK, "string"},
		{many(), one, []api.Type{text()}, argsOf(number(), constInt()), api.OK, "string"},
		{many(), one, nil, argsOf(number(), constInt()), api.ErrNone, ""},
	})
}

func TestInferConstants(t *testing.T) {
	p, q, one, two := param(0, face("")), param(1, face("")), anyOnes(1), anyOnes(2)
	checkInfer(t, nil, []inferRow{
		{takes(p), one, nil, argsOf(constInt()), api.OK, "int"},
		{takes(p), one, nil, argsOf(constStr()), api.OK, "string"},
		{takes(p), one, nil, argsOf(constYes()), api.OK, "bool"},
		// The first one counts; all with a type are ahead of them.
		{takes(p, p), one, nil, argsOf(constInt(), constStr()), api.OK, "int"},
		{takes(p, p), one, nil, argsOf(constStr(), constInt()), api.OK, "string"},
		{takes(p, p), one, nil, argsOf(constInt(), declared("T")), api.OK, "T"},
		{takes(p, p, p), one, nil, argsOf(constInt(), nothing(), truth()), api.OK, "bool"},
		{takes(p, q), two, nil, argsOf(constInt(), constStr()), api.OK, "int, string"},
		{takes(q, p), two, nil, argsOf(constInt(), constStr()), api.OK, "string, int"},
		// Only where the parameter's type is the type parameter itself.
		{takes(list(p)), one, nil, argsOf(constInt()), api.ErrNone, ""},
		{takes(to(p), p), one, nil, argsOf(constInt(), constStr()), api.OK, "string"},
		{takes(number(), p), one, nil, argsOf(constInt(), nothing()), api.ErrNone, ""},
		{takes(q), one, nil, argsOf(constInt()), api.ErrNone, ""},
		{takes(param(-1)), one, nil, argsOf(constInt()), api.ErrNone, ""},
		{takes(q), one, []api.Type{text()}, argsOf(constInt()), api.OK, "string"},
		// nil and tuples say nothing at all.
		{takes(p), one, nil, argsOf(nothing()), api.ErrNone, ""},
		{takes(p), one, nil, argsOf(tuple(number())), api.ErrNone, ""},
		{takes(p), one, nil, argsOf(tuple()), api.ErrNone, ""},
		// A value does not matter, of a constant with a type neither.
		{takes(p), one, nil, []unify.Arg{{Type: constInt(), Const: &api.Const{Kind: api.TypeString, Str: "a"}}}, api.OK, "int"},
		{takes(p), one, nil, []unify.Arg{{Type: text(), Const: &api.Const{Kind: api.TypeInt}}}, api.OK, "string"},
		{takes(p), one, nil, []unify.Arg{{Type: constInt(), Const: &api.Const{Kind: api.TypeInt, Num: api.Int{Mag: []uint32{0, 0, 1}}}}}, api.OK, "int"},
	})
}

func TestInferGiven(t *testing.T) {
	p, q, one, two := param(0, face("")), param(1, face("")), anyOnes(1), anyOnes(2)
	checkInfer(t, nil, []inferRow{
		{takes(p), one, []api.Type{text()}, argsOf(text()), api.OK, "string"},
		{takes(p), one, []api.Type{text()}, argsOf(number()), api.ErrKind, ""},
		{takes(p), one, []api.Type{text()}, argsOf(constInt()), api.OK, "string"},
		{takes(p), one, []api.Type{text()}, argsOf(nothing()), api.OK, "string"},
		{takes(p, q), two, []api.Type{text()}, argsOf(text(), number()), api.OK, "string, int"},
		{takes(p, q), two, []api.Type{text()}, argsOf(constInt(), constInt()), api.OK, "string, int"},
		{takes(q), two, []api.Type{text()}, argsOf(number()), api.OK, "string, int"},
		{takes(q), two, nil, argsOf(number()), api.ErrNone, ""},
		{takes(p), two, nil, argsOf(number()), api.ErrNone, ""},
		{takes(), two, []api.Type{text(), number()}, nil, api.OK, "string, int"},
		{takes(), two, []api.Type{text()}, nil, api.ErrNone, ""},
		// One of Kind 0 is not known, though it is given.
		{takes(p, q), two, []api.Type{{}, text()}, argsOf(number(), text()), api.OK, "int, string"},
		{takes(p), one, []api.Type{{}}, argsOf(nothing()), api.ErrNone, ""},
		{takes(p), one, nil, argsOf(of(0)), api.ErrNone, ""},
		// One that is another type parameter is that.
		{takes(p, q), two, []api.Type{q}, argsOf(q, text()), api.OK, "T1, string"},
		{takes(p, q), two, []api.Type{q}, argsOf(text(), text()), api.ErrKind, ""},
	})
}

func TestInferConstraints(t *testing.T) {
	w := world(t,
		api.Named{Name: "main.T", Under: number(), Methods: []api.Method{{Name: "M", Sig: takes(text())}}},
		api.Named{Name: "main.P", Under: number(), Methods: []api.Method{{Name: "M", Ptr: true, Sig: takes(text())}}},
		api.Named{Name: "main.I", Under: face("M", takes(text()))},
	)
	tee, pee := declared("main.T"), declared("main.P")
	f := takes(param(0))
	hasM := params(face("M", takes(text())))
	few := params(union(number(), text()))
	equal := params(anyEqual())
	pair := takes(param(0), param(1))
	// The second's constraint is told in the first.
	tied := params(face(""), face("M", takes(param(0))))
	listed := params(face(""), union(param(0), list(param(0))))
	checkInfer(t, w, []inferRow{
		{f, hasM, nil, argsOf(tee), api.OK, "main.T"},
		{f, hasM, nil, argsOf(pee), api.ErrKind, ""},
		{f, hasM, nil, argsOf(to(pee)), api.OK, "*main.P"},
		{f, hasM, nil, argsOf(declared("main.I")), api.OK, "main.I"},
		{f, hasM, nil, argsOf(number()), api.ErrKind, ""},
		{f, hasM, nil, argsOf(constInt()), api.ErrKind, ""},
		{f, hasM, []api.Type{number()}, argsOf(nothing()), api.ErrKind, ""},
		{f, hasM, nil, argsOf(param(3, face("M", takes(text())))), api.OK, "T3"},
		{f, params(declared("main.I")), nil, argsOf(tee), api.OK, "main.T"},
		{f, params(declared("main.I")), nil, argsOf(pee), api.ErrKind, ""},
		{f, few, nil, argsOf(number()), api.OK, "int"},
		{f, few, nil, argsOf(constStr()), api.OK, "string"},
		{f, few, nil, argsOf(constYes()), api.ErrKind, ""},
		{f, few, nil, argsOf(tee), api.ErrKind, ""},
		{f, few, nil, argsOf(param(5, union(text()))), api.OK, "T5"},
		{f, few, nil, argsOf(param(5, union(text(), truth()))), api.ErrKind, ""},
		{f, equal, nil, argsOf(tee), api.OK, "main.T"},
		{f, equal, nil, argsOf(list(tee)), api.ErrKind, ""},
		{f, equal, nil, argsOf(nothing()), api.ErrNone, ""},
		{pair, tied, nil, argsOf(text(), tee), api.OK, "string, main.T"},
		{pair, tied, nil, argsOf(number(), tee), api.ErrKind, ""},
		{pair, tied, nil, argsOf(constStr(), tee), api.OK, "string, main.T"},
		{pair, listed, nil, argsOf(number(), list(number())), api.OK, "int, []int"},
		{pair, listed, nil, argsOf(number(), list(text())), api.ErrKind, ""},
		{pair, listed, nil, argsOf(number(), constInt()), api.OK, "int, int"},
		// One that is not known is told ahead of one that does not satisfy, wherever they stand.
		{takes(param(0), param(1)), params(union(text()), face("")), nil, argsOf(number(), nothing()), api.ErrNone, ""},
		{takes(param(0), param(1)), params(face(""), union(text())), nil, argsOf(nothing(), number()), api.ErrNone, ""},
		// And what does not match ahead of one that is not known.
		{takes(param(0), list(param(1))), anyOnes(2), nil, argsOf(nothing(), number()), api.ErrKind, ""},
		// The constraints of params count, not those in sig; where there is none, nothing is asked.
		{takes(param(0, union(text()))), anyOnes(1), nil, argsOf(number()), api.OK, "int"},
		{takes(param(0, face(""))), params(union(text())), nil, argsOf(number()), api.ErrKind, ""},
		{f, []api.Type{param(0)}, nil, argsOf(list(number())), api.OK, "[]int"},
		// What may not be a constraint is satisfied by nothing.
		{f, params(number()), nil, argsOf(number()), api.ErrKind, ""},
		{f, params(union()), nil, argsOf(number()), api.ErrKind, ""},
	})
}

// What is no function takes nothing; a function's own numbers may be any.
func TestInferOddSigs(t *testing.T) {
	one, p := anyOnes(1), param(0)
	number1 := []api.Type{number()}
	for _, sig := range []api.Type{{}, number(), list(p), union(p), param(1, union(p)), fields("x", p), face("M", takes(p)), tuple(p), of(-1, p), of(99, p), {Kind: api.TypeStruct, N: 1, Flag: true, Kids: []api.Type{list(p)}}} {
		checkInfer(t, nil, []inferRow{
			{sig, one, number1, nil, api.OK, "int"},
			{sig, one, nil, nil, api.ErrNone, ""},
			{sig, one, number1, argsOf(number()), api.ErrArg, ""},
		})
	}
	for _, n := range []int{-1 << 63, -1, 0, 1, 2, 1<<63 - 1} {
		for _, flag := range []bool{false, true} {
			for count := range 4 {
				sig := api.Type{Kind: api.TypeFunc, N: n, Flag: flag, Kids: []api.Type{p}}
				got, err := unify.Infer(nil, sig, one, number1, make([]unify.Arg, count))
				if err != api.OK && len(got) != 0 || err == api.OK && show(got) != "int" {
					t.Errorf("P11.2: Infer of %s is %s, %d", dump(sig), show(got), err)
				}
			}
		}
	}
	if got, err := unify.Infer(nil, api.Type{}, nil, nil, nil); len(got) != 0 || err != api.OK {
		t.Errorf("P11.2: Infer of nothing is %s, %d", fmt.Sprint(got), err)
	}
}
