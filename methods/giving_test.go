package methods_test

import (
	"testing"

	"recast/api"
	"recast/exact"
	"recast/methods"
	"recast/types"
)

// numeral is a constant whole number.
func numeral(x api.Int) *api.Const { return &api.Const{Kind: api.TypeInt, Num: x} }

func five() *api.Const  { return numeral(exact.Of(5)) }
func word() *api.Const  { return &api.Const{Kind: api.TypeString, Str: "a"} }
func right() *api.Const { return &api.Const{Kind: api.TypeBool, Bool: true} }
func huge() *api.Const  { return numeral(api.Int{Mag: []uint32{0, 0, 1}}) }

func looseInt() api.Type  { return of(api.TypeConstInt) }
func looseText() api.Type { return of(api.TypeConstStr) }
func looseBool() api.Type { return of(api.TypeConstBool) }

func TestFits(t *testing.T) {
	edge := func(neg bool, mag ...uint32) api.Const { return *numeral(api.Int{Neg: neg, Mag: mag}) }
	for i, x := range []struct {
		c    api.Const
		of   api.Type
		want bool
	}{
		{*five(), number(), true}, {edge(false), number(), true}, {edge(true), number(), true},
		{edge(false, 1<<32-1, 1<<31-1), number(), true},
		{edge(false, 0, 1<<31), number(), false},
		{edge(true, 0, 1<<31), number(), true},
		{edge(true, 1, 1<<31), number(), false},
		{edge(true, 0, 0, 1), number(), false},
		{edge(false, 0, 0, 1), number(), false},
		// Noughts ahead change no value.
		{edge(false, 7, 0, 0, 0), number(), true},
		{edge(true, 0, 1<<31, 0), number(), true},
		{*word(), text(), true}, {api.Const{Kind: api.TypeString}, text(), true},
		{*right(), truth(), true}, {api.Const{Kind: api.TypeBool}, truth(), true},
		{*five(), text(), false}, {*five(), truth(), false}, {*word(), number(), false}, {*word(), truth(), false}, {*right(), number(), false}, {*right(), text(), false},
		// Just these types.
		{*five(), declared("K"), false}, {*five(), looseInt(), false}, {*word(), looseText(), false}, {*right(), looseBool(), false}, {*five(), face(""), false}, {*five(), param("P", 0, union(number())), false}, {*five(), union(number()), false}, {*five(), to(number()), false}, {*five(), api.Type{}, false}, {*five(), nothing(), false},
		// No constants.
		{api.Const{}, api.Type{}, false}, {api.Const{Kind: api.TypeConstInt}, number(), false}, {api.Const{Kind: api.TypeConstInt}, looseInt(), false}, {api.Const{Kind: api.TypeNamed}, declared(""), false}, {api.Const{Kind: -1}, of(-1), false}, {api.Const{}, number(), false},
	} {
		if got := methods.Fits(x.c, x.of); got != x.want {
			t.Errorf("P9.4: number %d: Fits(%+v, %s) is %v", i, x.c, types.Text(x.of), got)
		}
	}
}

// givingWorld is declared types of each kind.
func givingWorld(t *testing.T) *types.World {
	t.Helper()
	return world(t,
		with("K", number(), "Get"), with("K2", number()), with("KK", declared("K")), with("Name", text()), with("Yes", truth()),
		with("S", list(number())), with("S2", list(number())), with("F", fn(1, number())),
		with("R", fields("x", number()), "*M"), with("R2", fields("x", number())),
		with("I", face("M", fn(0))), with("G", face("Get", fn(0))), with("Any", face("")),
		with("P", to(declared("R"))), with("C", of(api.TypeChan, number())),
		with("Void", of(api.TypeTuple)), with("Void2", of(api.TypeTuple)), with("Nil", nothing()), with("Nil2", nothing()), with("Loose", looseInt()), with("Loose2", looseInt()),
		with("Gen", param("A", 0, union(number()))), with("Gen2", param("A", 0, union(number()))),
	)
}

func ints() api.Type   { return param("A", 0, union(number())) }
func either() api.Type { return param("B", 1, union(number(), text())) }
func bools() api.Type  { return param("C", 2, union(truth())) }

// giving is a question and its answers: whether v may be given to t, and whether it may become it.
type giving struct {
	v, t   api.Type
	c      *api.Const
	given  bool
	become bool
}

// values is questions about what is no constant without a type.
func values() []giving {
	d := declared
	return []giving{
		// Identical ones.
		{number(), number(), nil, true, true}, {text(), text(), nil, true, true}, {truth(), truth(), nil, true, true}, {d("K"), d("K"), nil, true, true}, {d("R"), d("R"), nil, true, true}, {list(d("K")), list(d("K")), nil, true, true}, {ints(), ints(), nil, true, true}, {ints(), param("A", 0), nil, true, true}, {d("Z"), d("Z"), nil, true, true}, {d("Void"), d("Void"), nil, true, true}, {to(nothing()), to(nothing()), nil, true, true},
		{of(api.TypeTuple), of(api.TypeTuple), nil, false, false}, {of(api.TypeTuple, number()), of(api.TypeTuple, number()), nil, false, false}, {nothing(), nothing(), nil, false, false}, {looseInt(), looseInt(), nil, false, false}, {looseBool(), looseBool(), nil, false, false}, {looseInt(), looseInt(), five(), false, false}, {looseText(), looseText(), word(), false, false}, {looseBool(), looseBool(), right(), false, false},
		// Alike underneath: one of both has no name.
		{d("K"), number(), nil, false, true}, {number(), d("K"), nil, false, true}, {d("K"), d("K2"), nil, false, true}, {d("K"), d("KK"), nil, false, true}, {d("Name"), text(), nil, false, true}, {truth(), d("Yes"), nil, false, true},
		{d("S"), list(number()), nil, true, true}, {list(number()), d("S"), nil, true, true}, {d("S"), d("S2"), nil, false, true}, {d("F"), fn(1, number()), nil, true, true}, {d("R"), d("R2"), nil, false, true}, {fields("x", number()), d("R"), nil, true, true}, {d("P"), to(d("R")), nil, true, true}, {to(d("R")), d("P"), nil, true, true}, {to(d("R")), to(d("R2")), nil, false, false}, {d("C"), of(api.TypeChan, number()), nil, true, true},
		{list(number()), list(d("K")), nil, false, false}, {d("S"), list(d("K")), nil, false, false}, {fields("y", number()), d("R"), nil, false, false}, {number(), text(), nil, false, false}, {d("K"), d("Name"), nil, false, false}, {list(number()), number(), nil, false, false},
		{ints(), number(), nil, false, false}, {number(), ints(), nil, false, false}, {ints(), either(), nil, false, false}, {ints(), d("K"), nil, false, false}, {ints(), param("A", 1), nil, false, false}, {ints(), param("D", 0), nil, false, false},
		// Such as no source has.
		{d("Gen"), param("A", 0), nil, false, false}, {param("A", 0), d("Gen"), nil, false, false}, {d("Gen"), d("Gen2"), nil, false, false}, {d("Void"), of(api.TypeTuple), nil, false, false}, {of(api.TypeTuple), d("Void"), nil, false, false}, {d("Void"), d("Void2"), nil, false, false}, {d("Nil"), nothing(), nil, false, false}, {nothing(), d("Nil"), nil, false, false}, {d("Nil"), d("Nil2"), nil, false, false}, {d("Loose"), looseInt(), nil, false, false}, {looseInt(), d("Loose"), five(), false, false}, {d("Loose"), d("Loose2"), nil, false, false},
		// Interfaces.
		{to(d("R")), d("I"), nil, true, true}, {d("R"), d("I"), nil, false, false}, {d("P"), d("I"), nil, true, true}, {d("K"), d("G"), nil, true, true}, {d("KK"), d("G"), nil, false, false}, {number(), d("G"), nil, false, false}, {d("K"), face("Get", fn(0)), nil, true, true}, {d("I"), d("G"), nil, false, false}, {d("I"), face("M", fn(0)), nil, true, true}, {d("I"), d("Any"), nil, true, true}, {d("Any"), d("I"), nil, false, false},
		{number(), face(""), nil, true, true}, {list(number()), d("Any"), nil, true, true}, {ints(), face(""), nil, true, true}, {param("Q", 0, d("I")), d("I"), nil, true, true}, {d("I"), param("Q", 0, d("I")), nil, false, false}, {number(), param("Q", 0, face("")), nil, false, false}, {of(api.TypeTuple), face(""), nil, false, false}, {of(api.TypeTuple, number()), d("Any"), nil, false, false}, {d("Z"), face(""), nil, true, true}, {d("I"), to(d("R")), nil, false, false},
		// A constant's value counts for nothing, where it has a type.
		{number(), number(), huge(), true, true}, {number(), text(), word(), false, false}, {d("K"), number(), five(), false, true}, {nothing(), number(), five(), false, false},
		// nil.
		{nothing(), list(number()), nil, true, true}, {nothing(), d("S"), nil, true, true}, {nothing(), to(number()), nil, true, true}, {nothing(), d("P"), nil, true, true}, {nothing(), d("C"), nil, true, true}, {nothing(), d("F"), nil, true, true}, {nothing(), face(""), nil, true, true}, {nothing(), d("I"), nil, true, true}, {nothing(), number(), nil, false, false}, {nothing(), d("R"), nil, false, false}, {nothing(), d("K"), nil, false, false}, {nothing(), ints(), nil, false, false}, {nothing(), param("Q", 0, d("I")), nil, false, false}, {nothing(), d("Z"), nil, false, false}, {nothing(), of(api.TypeTuple), nil, false, false}, {list(number()), nothing(), nil, false, false},
	}
}

// constants is questions about constants without a type.
func constants() []giving {
	d := declared
	return []giving{
		{looseInt(), number(), five(), true, true}, {looseInt(), d("K"), five(), true, true}, {looseInt(), d("KK"), five(), true, true}, {looseInt(), d("K"), huge(), false, false}, {looseInt(), number(), huge(), false, false}, {looseInt(), text(), five(), false, false}, {looseInt(), truth(), five(), false, false}, {looseInt(), list(number()), five(), false, false}, {looseInt(), d("Z"), five(), false, false}, {looseInt(), to(number()), five(), false, false},
		{looseText(), text(), word(), true, true}, {looseText(), d("Name"), word(), true, true}, {looseText(), number(), word(), false, false}, {looseBool(), truth(), right(), true, true}, {looseBool(), d("Yes"), right(), true, true}, {looseBool(), d("K"), right(), false, false},
		{looseInt(), face(""), five(), true, true}, {looseInt(), d("Any"), five(), true, true}, {looseInt(), face(""), huge(), false, false}, {looseInt(), d("I"), five(), false, false}, {looseInt(), d("G"), five(), false, false}, {looseText(), face(""), word(), true, true}, {looseBool(), d("Any"), right(), true, true},
		{looseInt(), ints(), five(), true, true}, {looseInt(), ints(), huge(), false, false}, {looseInt(), either(), five(), false, false}, {looseText(), either(), word(), false, false}, {looseInt(), bools(), five(), false, false}, {looseBool(), bools(), right(), true, true}, {looseInt(), param("D", 0, union(number(), number())), five(), true, true}, {looseInt(), param("D", 0, anyEqual()), five(), false, false}, {looseInt(), param("D", 0, face("")), five(), false, false}, {looseInt(), param("D", 0, d("Any")), five(), false, false}, {looseInt(), param("D", 0), five(), false, false}, {looseInt(), param("D", 0, union()), five(), false, false},
		{looseInt(), of(api.TypeTuple), five(), false, false}, {looseInt(), nothing(), five(), false, false}, {number(), looseInt(), five(), false, false},
		// A value of another kind than the type says: what fits counts.
		{looseInt(), text(), word(), true, true}, {looseInt(), face(""), word(), false, false}, {looseInt(), number(), &api.Const{}, false, false}, {looseInt(), face(""), &api.Const{}, false, false},
		// Without a value.
		{looseBool(), truth(), nil, true, true}, {looseBool(), d("Yes"), nil, true, true}, {looseBool(), face(""), nil, true, true}, {looseBool(), d("Any"), nil, true, true}, {looseBool(), d("I"), nil, false, false}, {looseBool(), bools(), nil, true, true}, {looseBool(), ints(), nil, false, false}, {looseBool(), param("D", 0, union(truth(), number())), nil, false, false}, {looseBool(), number(), nil, false, false},
		{looseInt(), number(), nil, false, false}, {looseInt(), face(""), nil, false, false}, {looseInt(), ints(), nil, false, false}, {looseText(), text(), nil, false, false}, {looseInt(), truth(), nil, false, false}, {looseText(), bools(), nil, false, false},
	}
}

func TestGiving(t *testing.T) {
	w := givingWorld(t)
	for _, x := range append(values(), constants()...) {
		if got := methods.Assignable(w, x.v, x.t, x.c); got != x.given {
			t.Errorf("P9.5: Assignable(%s, %s, %+v) is %v", types.Text(x.v), types.Text(x.t), x.c, got)
		}
		if got := methods.Convertible(w, x.v, x.t, x.c); got != x.become {
			t.Errorf("P9.6: Convertible(%s, %s, %+v) is %v", types.Text(x.v), types.Text(x.t), x.c, got)
		}
	}
	for _, none := range []*types.World{nil, {}} {
		if !methods.Assignable(none, number(), face(""), nil) || methods.Assignable(none, declared("K"), number(), nil) || !methods.Convertible(none, declared("K"), declared("K"), nil) || methods.Convertible(none, declared("K"), number(), nil) {
			t.Errorf("P9.5: not as P8.8 asks without a world")
		}
	}
}

func TestSatisfies(t *testing.T) {
	w := givingWorld(t)
	d := declared
	for _, x := range []struct {
		of, by api.Type
		want   bool
	}{
		{number(), union(number()), true}, {text(), union(number(), text()), true}, {truth(), union(number(), text()), false}, {d("K"), union(number()), false}, {d("K"), union(number(), d("K")), true}, {list(number()), union(list(number())), true}, {looseInt(), union(number()), false}, {number(), union(), false}, {nothing(), union(number()), false},
		{ints(), union(text(), number()), true}, {ints(), union(number()), true}, {either(), union(number()), false}, {either(), union(text(), truth(), number()), true}, {bools(), union(number(), text()), false}, {ints(), union(ints()), true}, {ints(), union(text(), param("A", 0)), true},
		{param("D", 0, anyEqual()), union(number(), text(), truth()), false}, {param("D", 0, union()), union(number()), false}, {param("D", 0, face("")), union(number()), false}, {param("D", 0, number()), union(number()), false}, {param("D", 0), union(number()), false},
		{number(), anyEqual(), true}, {d("K"), anyEqual(), true}, {d("R"), anyEqual(), true}, {d("S"), anyEqual(), false}, {list(number()), anyEqual(), false}, {fn(0), anyEqual(), false}, {d("I"), anyEqual(), true}, {ints(), anyEqual(), true}, {param("D", 0, anyEqual()), anyEqual(), true}, {param("D", 0, face("")), anyEqual(), false}, {fields("x", list(number())), anyEqual(), false}, {nothing(), anyEqual(), false}, {of(api.TypeTuple), anyEqual(), false},
		{number(), face(""), true}, {list(number()), face(""), true}, {d("K"), d("G"), true}, {d("K2"), d("G"), false}, {d("R"), d("I"), false}, {to(d("R")), d("I"), true}, {to(d("R")), face("M", fn(0)), true}, {param("D", 0, d("I")), d("I"), true}, {param("D", 0, d("I")), d("G"), false}, {ints(), face(""), true},
		// Such as are no constraints.
		{number(), number(), false}, {d("K"), d("K"), false}, {number(), d("Z"), false}, {number(), api.Type{}, false}, {ints(), ints(), false}, {nothing(), nothing(), false},
	} {
		if got := methods.Satisfies(w, x.of, x.by); got != x.want {
			t.Errorf("P9.7: Satisfies(%s, %s) is %v", types.Text(x.of), types.Text(x.by), got)
		}
	}
}
