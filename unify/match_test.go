package unify_test

import (
	"fmt"
	"testing"

	"recast/api"
	"recast/unify"
)

// unset is so many type arguments that are not known.
func unset(count int) []api.Type { return make([]api.Type, count) }

// matchRow is a call of Match, and what it comes to.
type matchRow struct {
	param, arg api.Type
	args       []api.Type
	ok         bool
	known      string
}

// checkMatch plays rows.
func checkMatch(t *testing.T, rows []matchRow) {
	t.Helper()
	for _, r := range rows {
		what := fmt.Sprintf("P11.1: Match(%s, %s, %s)", dump(r.param), dump(r.arg), show(r.args))
		if ok := unify.Match(r.param, r.arg, r.args); ok != r.ok || show(r.args) != r.known {
			t.Errorf("%s is %v, args %s; want %v, args %s", what, ok, show(r.args), r.ok, r.known)
		}
	}
}

func TestMatchFinds(t *testing.T) {
	p, q := param(0, face("")), param(1, face(""))
	checkMatch(t, []matchRow{
		{list(p), list(number()), unset(1), true, "int"},
		{p, number(), unset(1), true, "int"},
		{p, declared("main.T"), unset(1), true, "main.T"},
		{p, fn(1, number(), text()), unset(1), true, "func(int) string"},
		{p, param(7), unset(1), true, "T7"},
		{p, param(0, union(number())), unset(1), true, "T0"},
		{p, param(1), unset(2), true, "T1, ?"},
		{q, text(), unset(2), true, "?, string"},
		{to(pipe(p)), to(pipe(list(text()))), unset(1), true, "[]string"},
		{takes(p, q), takes(text(), number()), unset(2), true, "string, int"},
		{takes(q, p), takes(text(), number()), unset(2), true, "int, string"},
		{fn(1, p, q), fn(1, text(), number()), unset(2), true, "string, int"},
		{fields("x +y", p, q), fields("x +y", text(), number()), unset(2), true, "string, int"},
		{face("M N", takes(p), takes(q)), face("M N", takes(text()), takes(number())), unset(2), true, "string, int"},
		{many(number(), list(p)), many(number(), list(text())), unset(1), true, "string"},
		{takes(p, p, p), takes(to(text()), to(text()), to(text())), unset(1), true, "*string"},
		{takes(p, list(p)), takes(number(), list(number())), unset(1), true, "int"},
		{union(p, text()), union(number(), text()), unset(1), true, "int"},
		// What stands for a type parameter is not asked about what stands within it.
		{p, list(param(0)), unset(1), true, "[]T0"},
		{takes(p, q), takes(q, p), unset(2), true, "T1, T0"},
		{takes(p, list(p)), takes(q, list(q)), unset(2), true, "T1, ?"},
	})
}

func TestMatchKnown(t *testing.T) {
	p, q := param(0, face("")), param(1, face(""))
	checkMatch(t, []matchRow{
		{p, number(), []api.Type{number()}, true, "int"},
		{p, text(), []api.Type{number()}, false, "int"},
		{p, list(number()), []api.Type{number()}, false, "int"},
		{list(p), list(list(number())), []api.Type{list(number())}, true, "[]int"},
		{takes(p, q), takes(number(), text()), []api.Type{number(), {}}, true, "int, string"},
		{takes(p, q), takes(number(), text()), []api.Type{{}, text()}, true, "int, string"},
		{takes(p, q), takes(number(), text()), []api.Type{{}, number()}, false, "int, int"},
		// Identical is of type parameters Name and N alone.
		{p, param(4, union(text())), []api.Type{param(4, face(""))}, true, "T4"},
		{p, param(5), []api.Type{param(4)}, false, "T4"},
		{p, list(param(4, union(text()))), []api.Type{list(param(4))}, true, "[]T4"},
		// One that is known to be another type parameter is that, not what this one is known to be.
		{p, text(), []api.Type{q, text()}, false, "T1, string"},
		{p, q, []api.Type{q, text()}, true, "T1, string"},
		// What the type parameter is constrained to is not asked here.
		{param(0, union(text())), number(), unset(1), true, "int"},
		// Its name neither.
		{api.Type{Kind: api.TypeParam, Name: "Any"}, number(), unset(1), true, "int"},
	})
}

// What was written stays, though it does not match further on; nothing is written behind that.
func TestMatchWrittenStays(t *testing.T) {
	p, q := param(0, face("")), param(1, face(""))
	checkMatch(t, []matchRow{
		{takes(p, p), takes(number(), text()), unset(1), false, "int"},
		{takes(p, text(), q), takes(number(), number(), text()), unset(2), false, "int, ?"},
		{takes(text(), p), takes(number(), number()), unset(1), false, "?"},
		{takes(list(takes(p)), q), takes(list(text()), text()), unset(2), false, "?, ?"},
		{takes(list(p), to(q)), takes(list(text()), list(text())), unset(2), false, "string, ?"},
		// A type without its Kids is held against the other ahead of these.
		{takes(p, q), takes(number()), unset(2), false, "?, ?"},
		{takes(p), takes(number(), text()), unset(2), false, "?, ?"},
		{fields("x y", p, q), fields("x z", number(), text()), unset(2), false, "?, ?"},
	})
}

// Everywhere else all must be the same.
func TestMatchElsewhere(t *testing.T) {
	rows := []matchRow{}
	same := []api.Type{
		number(), text(), truth(), declared("main.T"), to(number()), list(text()), pipe(truth()), takes(), takes(number()),
		fn(0, number()), many(list(number())), fields(""), fields("x", number()), fields("y", number()), fields("+x", number()),
		fields("x y", number(), text()), face(""), face("M", takes()), face("N", takes()), union(), union(number()), anyEqual(),
		declared("main.U"), param(2), param(3), param(-1), param(2, face("")), param(2, union(number())), of(0), of(18), of(-1),
		api.Type{Kind: api.TypeParam, Name: "U", N: 2}, api.Type{Kind: api.TypeInt, Flag: true}, api.Type{Kind: api.TypeInt, N: 1},
		api.Type{Kind: api.TypeParam, N: -1 << 63}, api.Type{Kind: api.TypeParam, N: 1<<63 - 1}, api.Type{Kind: api.TypeInt, Name: "int"},
		{Kind: api.TypeStruct, Kids: []api.Type{number()}}, {Kind: api.TypeStruct, Names: []string{"x"}, Kids: []api.Type{number()}},
		{Kind: api.TypeStruct, Marks: []bool{false}, Kids: []api.Type{number()}}, {Kind: api.TypeFunc, N: 2, Kids: []api.Type{number()}},
	}
	for i, a := range same {
		for k, b := range same {
			rows = append(rows, matchRow{a, b, unset(2), i == k, "?, ?"})
			rows = append(rows, matchRow{takes(a, param(0), a), takes(b, text(), a), unset(2), i == k, map[bool]string{true: "string, ?", false: "?, ?"}[i == k]})
		}
	}
	checkMatch(t, rows)
	// nil and an empty list are the same.
	bare := of(api.TypeStruct)
	empty := api.Type{Kind: api.TypeStruct, Names: []string{}, Marks: []bool{}, Kids: []api.Type{}}
	checkMatch(t, []matchRow{
		{bare, empty, nil, true, ""},
		{empty, bare, []api.Type{}, true, ""},
		// A type parameter whose number args has not is a type as others are, with its constraint.
		{param(0), number(), nil, false, ""},
		{param(0), param(0), nil, true, ""},
		{param(1, union(param(0), text())), param(1, union(number(), text())), unset(1), true, "int"},
		{param(1, union(param(0), text())), param(1, union(number(), truth())), unset(1), false, "int"},
		{param(-1), number(), unset(1), false, "?"},
		{param(1), number(), unset(1), false, "?"},
	})
}

// A part that is nil, a tuple or a constant without a type matches nothing.
func TestMatchNoType(t *testing.T) {
	for _, x := range []api.Type{nothing(), tuple(), tuple(number(), text()), constInt(), constStr(), constYes()} {
		checkMatch(t, []matchRow{
			{param(0), x, unset(1), false, "?"},
			{param(0), x, []api.Type{number()}, false, "int"},
			{list(param(0)), list(x), unset(1), false, "?"},
			{takes(param(0), param(1)), takes(number(), x), unset(2), false, "int, ?"},
			{x, x, unset(1), false, "?"},
			{takes(x, param(0)), takes(x, number()), unset(1), false, "?"},
			{x, number(), unset(1), false, "?"},
		})
		args := []api.Type{x}
		if unify.Match(param(0), x, args) || dump(args[0]) != dump(x) {
			t.Errorf("P11.1: Match of %s, which is known, is true", dump(x))
		}
		// Within what stands for a type parameter nothing is looked at.
		if args = unset(1); !unify.Match(param(0), list(x), args) || dump(args[0]) != dump(list(x)) {
			t.Errorf("P11.1: Match of a slice of %s leaves %s", dump(x), dump(args[0]))
		}
	}
}
