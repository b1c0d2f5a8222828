package unify_test

import (
	"fmt"
	"testing"

	"recast/api"
	"recast/types"
	"recast/unify"
)

// Types may be far deeper than calls may be within one another.

// chain is a type within so many others of a kind.
func chain(kind, depth int, last api.Type) api.Type {
	for range depth {
		last = of(kind, last)
	}
	return last
}

// bush is functions within one another, each with a type ahead of and one behind the inner one.
func bush(depth int, ahead, behind func(i int) api.Type, last api.Type) api.Type {
	for i := range depth {
		last = takes(ahead(i), last, behind(i))
	}
	return last
}

// always is one type at all depths.
func always(t api.Type) func(i int) api.Type { return func(int) api.Type { return t } }

func TestMatchDeep(t *testing.T) {
	const depth = 1 << 20
	args := unset(1)
	if !unify.Match(chain(api.TypePointer, depth, param(0)), chain(api.TypePointer, depth, text()), args) || show(args) != "string" {
		t.Errorf("rule 1: Match of deep types leaves %s", show(args))
	}
	if args = unset(1); unify.Match(chain(api.TypePointer, depth, param(0)), chain(api.TypePointer, depth-1, text()), args) || show(args) != "?" {
		t.Errorf("rule 1: Match of types that are not equally deep leaves %s", show(args))
	}
	if args = unset(1); !unify.Match(chain(api.TypePointer, 5, param(0)), chain(api.TypePointer, depth, text()), args) || !types.Identical(args[0], chain(api.TypePointer, depth-5, text())) {
		t.Error("rule 1: Match does not leave a deep type")
	}
	if !unify.Match(param(0), chain(api.TypePointer, depth-5, text()), args) || unify.Match(param(0), chain(api.TypePointer, depth-5, number()), args) {
		t.Error("rule 1: deep types that are known are not held against others as they should be")
	}
}

// The order in which parts become known is that in which they stand, however deep that is.
func TestMatchDeepOrder(t *testing.T) {
	for _, depth := range []int{1, 10, 998, 999, 1000, 1001, 1002, 1999, 2000, 2001, 2002, 2003, 3500, 20000} {
		p, q, r := param(0), param(1), param(2)
		// Ahead stands p, then, innermost, q, and behind r: which of them are known when it does not match, tells how
		// far it went.
		two := bush(depth, always(p), always(r), q)
		full := func(at int, wrong api.Type) func(i int) api.Type {
			return func(i int) api.Type {
				if i == at {
					return wrong
				}
				return number()
			}
		}
		ok := full(-1, text())
		for _, row := range []struct {
			arg   api.Type
			ok    bool
			known string
		}{
			{bush(depth, ok, ok, text()), true, "int, string, int"},
			{bush(depth, full(0, text()), ok, text()), depth == 1, map[bool]string{true: "string, string, int", false: "int, ?, ?"}[depth == 1]},
			{bush(depth, ok, full(depth-1, text()), truth()), depth == 1, map[bool]string{true: "int, bool, string", false: "int, bool, int"}[depth == 1]},
			{bush(depth, ok, full(0, nothing()), truth()), false, "int, bool, ?"},
			{bush(depth, ok, ok, nothing()), false, "int, ?, ?"},
			{bush(depth, full(depth-1, nothing()), ok, text()), false, "?, ?, ?"},
		} {
			args := unset(3)
			if got := unify.Match(two, row.arg, args); got != row.ok || show(args) != row.known {
				t.Errorf("P11.1: at depth %d: Match is %v, args %s; want %v, %s", depth, got, show(args), row.ok, row.known)
			}
		}
		// Each place on the way back says what becomes known there first.
		back := bush(depth, always(number()), always(p), q)
		args := unset(2)
		if unify.Match(back, bush(depth, always(number()), func(i int) api.Type { return declared(fmt.Sprint("D", i)) }, text()), args) != (depth == 1) || show(args) != "D0, string" {
			t.Errorf("P11.1: at depth %d: args are %s", depth, show(args))
		}
	}
}

func TestInferDeep(t *testing.T) {
	const depth = 1 << 19
	deepP, deepInt := chain(api.TypeSlice, depth, param(0)), chain(api.TypeSlice, depth, number())
	got, err := unify.Infer(nil, takes(deepP, deepInt, param(1)), params(union(number()), union(list(param(0)), deepP)), nil, argsOf(deepInt, number(), deepInt))
	if err != api.OK || len(got) != 2 || got[0].Kind != api.TypeInt || !types.Identical(got[1], deepInt) {
		t.Errorf("rule 1: Infer of deep types is %d", err)
	}
	if _, err = unify.Infer(nil, takes(deepP), anyOnes(1), nil, argsOf(chain(api.TypeSlice, depth-1, number()))); err != api.ErrKind {
		t.Errorf("rule 1: Infer of types that are not equally deep is %d", err)
	}
	if _, err = unify.Infer(nil, takes(deepInt), anyOnes(1), nil, argsOf(text())); err != api.ErrNone {
		t.Errorf("rule 1: Infer of a deep type without a type parameter is %d", err)
	}
}

// What a parameter is, is worked out once, however many arguments meet it.
func TestInferMuch(t *testing.T) {
	const count = 100000
	var wide []api.Type
	for range count {
		wide = append(wide, number())
	}
	args := make([]unify.Arg, count)
	for i := range args {
		args[i].Type = text()
	}
	for what, sig := range map[string]api.Type{
		"closed":      many(param(0), list(takes(wide...))),
		"constrained": many(list(param(0, union(wide...)))),
	} {
		if got, err := unify.Infer(nil, sig, anyOnes(1), nil, args); err != api.OK || show(got) != "string" {
			t.Errorf("P11.2: %s: Infer of many arguments is %s, %d", what, show(got), err)
		}
	}
	args = args[:1]
	args[0].Type = takes(wide...)
	got, err := unify.Infer(nil, takes(takes(wide...)), anyOnes(1), []api.Type{text()}, args)
	if err != api.OK || show(got) != "string" {
		t.Errorf("P11.2: Infer of a wide type is %s, %d", show(got), err)
	}
}
