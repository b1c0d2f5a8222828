package types_test

import (
	"fmt"
	"strings"
	"testing"

	"recast/api"
	"recast/types"
)

// chain is a type within so many others of a kind.
func chain(kind, depth int, last api.Type) api.Type {
	for range depth {
		last = of(kind, last)
	}
	return last
}

// Types may be as deep as they like.
func TestDeep(t *testing.T) {
	const depth = 1 << 21
	x, y := chain(api.TypePointer, depth, number()), chain(api.TypePointer, depth, text())
	if got := types.Text(x); got != strings.Repeat("*", depth)+"int" {
		t.Errorf("rule 1: the text of a deep type is %d bytes, %.20q", len(got), got)
	}
	if !types.Identical(x, types.Subst(chain(api.TypePointer, depth, param("P", 0)), []api.Type{number()})) || types.Identical(x, y) {
		t.Error("rule 1: deep types are not compared as they should be")
	}
	w, err := types.New(names("T", x, "U", chain(api.TypeStruct, depth, declared("V")), "V", number()))
	if err != api.OK || !w.Comparable(declared("U")) || w.Comparable(chain(api.TypeStruct, depth, fn(0))) {
		t.Error("rule 1: deep structs are not asked as they should be")
	}
	if _, err := types.New(names("U", chain(api.TypeStruct, depth, declared("U")))); err != api.ErrArg {
		t.Errorf("rule 1: New of a deep struct that holds itself is %d", err)
	}
	if _, err := types.New(names("U", chain(api.TypeSlice, depth, declared("V")))); err != api.ErrNone {
		t.Errorf("rule 1: New of a deep type of one that is not there is %d", err)
	}
}

// row is declared types T0, T1, .. of which each is made of the next; the last one is a type of its own.
func row(count int, made func(next api.Type) api.Type, last api.Type) []api.Named {
	var l []api.Named
	for i := range count {
		under := last
		if i+1 < count {
			under = made(declared(fmt.Sprint("T", i+1)))
		}
		l = append(l, api.Named{Name: fmt.Sprint("T", i), Under: under})
	}
	return l
}

// Rows of declared types may be long, and there may be more ways through them than could ever be gone.
func TestManyWays(t *testing.T) {
	direct := func(next api.Type) api.Type { return next }
	twice := func(next api.Type) api.Type { return fields("x y z", next, next, fields("x y", next, next)) }
	either := func(next api.Type) api.Type {
		return param("P", 0, of(api.TypeUnion, next, next, fields("x y", next, next)))
	}
	first := declared("T0")
	for what, made := range map[string]func(next api.Type) api.Type{"direct": direct, "twice": twice, "either": either} {
		count := 1 << 14
		w := world(t, row(count, made, of(api.TypeInterface)))
		if !w.Comparable(first) || w.Nilable(first) != (what == "direct") {
			t.Errorf("rule 1: %s: Comparable is %v, Nilable %v", what, w.Comparable(first), w.Nilable(first))
		}
		if w = world(t, row(count, made, fn(0))); w.Comparable(first) {
			t.Errorf("rule 1: %s: Comparable is true", what)
		}
		_, err := types.New(row(count, made, first))
		if what == "either" && err != api.OK || what != "either" && err != api.ErrArg {
			t.Errorf("rule 1: %s: New of a circle is %d", what, err)
		}
	}
	if !world(t, row(50, either, first)).Comparable(first) {
		t.Error("rule 1: Comparable of a circle through constraints, in which nothing is not, is false")
	}
}
