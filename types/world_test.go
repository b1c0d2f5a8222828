package types_test

import (
	"fmt"
	"testing"

	"recast/api"
	"recast/types"
)

func TestNew(t *testing.T) {
	T, U, V := declared("T"), declared("U"), declared("V")
	for i, x := range []struct {
		l    []api.Named
		want api.Errno
	}{
		// The chapter's examples.
		{names("main.T", of(api.TypePointer, declared("main.T"))), api.OK}, {names("main.T", fields("x", declared("main.T"))), api.ErrArg}, {names("main.T", declared("main.U")), api.ErrNone},
		{nil, api.OK}, {[]api.Named{{}}, api.OK}, {names("", number()), api.OK},
		// A name twice, alike or not.
		{names("T", number(), "T", number()), api.ErrArg}, {names("T", number(), "U", text(), "T", truth()), api.ErrArg}, {names("", number(), "", text()), api.ErrArg},
		{names("a.T", number(), "b.T", number(), "t", text()), api.OK},
		// Underneath itself.
		{names("T", T), api.ErrArg}, {names("T", U, "U", T), api.ErrArg}, {names("T", U, "U", V, "V", T), api.ErrArg}, {names("T", U, "U", V, "V", V), api.ErrArg}, {names("T", U, "U", V, "V", number()), api.OK}, {names("V", T, "T", U, "U", number()), api.OK},
		// Within itself.
		{names("T", fields("+T", T)), api.ErrArg}, {names("T", fields("x y", number(), T)), api.ErrArg}, {names("T", fields("x", fields("y", fields("z", T)))), api.ErrArg},
		{names("T", fields("x", U), "U", fields("y", T)), api.ErrArg}, {names("T", fields("x", U), "U", T), api.ErrArg}, {names("T", U, "U", V, "V", fields("x", fields("y", U))), api.ErrArg}, {names("V", fields("x", T), "T", fields("x", U), "U", fields("y z", number(), U)), api.ErrArg},
		{names("T", of(api.TypeStruct, of(api.TypeStruct, T))), api.ErrArg},
		// Through something else, or not within itself.
		{names("T", fields("x", of(api.TypePointer, T))), api.OK}, {names("T", fields("x", of(api.TypeSlice, T))), api.OK}, {names("T", fields("x", of(api.TypeChan, T))), api.OK}, {names("T", fields("x", fn(1, T, T))), api.OK}, {names("T", fields("x", face("M", fn(0, T)))), api.OK}, {names("T", fields("x", of(api.TypeTuple, T))), api.OK}, {names("T", fields("x", of(api.TypeUnion, T))), api.OK}, {names("T", fields("x", param("P", 0, T))), api.OK},
		{names("T", of(api.TypeSlice, T)), api.OK}, {names("T", of(api.TypeChan, T)), api.OK}, {names("T", fn(0, T)), api.OK}, {names("T", face("M", fn(1, T))), api.OK}, {names("T", of(api.TypePointer, fields("x", T))), api.OK},
		{names("T", fields("x", U), "U", of(api.TypePointer, T)), api.OK}, {names("T", of(api.TypePointer, U), "U", T), api.OK}, {names("T", fields("x y z", U, U, V), "U", fields("x y", V, V), "V", number()), api.OK}, {names("T", fields("x", fields("y", U)), "U", fields("z", of(api.TypeSlice, T))), api.OK},
		{[]api.Named{with("T", number(), fn(1, T, fields("x", T)))}, api.OK},
		// What is not there, wherever it stands.
		{names("T", of(api.TypePointer, U)), api.ErrNone}, {names("T", fields("x", U)), api.ErrNone}, {names("T", fields("x y", T, U)), api.ErrArg}, {names("T", fields("x y", number(), fields("z", of(api.TypeChan, fn(0, U))))), api.ErrNone}, {names("T", face("M N", fn(0), fn(0, number(), U))), api.ErrNone}, {names("T", fn(1, param("P", 0, of(api.TypeUnion, number(), U)))), api.ErrNone}, {names("T", of(api.TypeTuple, number(), U)), api.ErrNone},
		{names("T", number(), "V", of(api.TypeSlice, of(api.TypeSlice, U))), api.ErrNone}, {names("T", declared("")), api.ErrNone}, {names("T", declared("t")), api.ErrNone}, {names("main.T", of(api.TypeSlice, T)), api.ErrNone},
		{names("T", param("U", 0)), api.OK}, {names("T", fields("U", number())), api.OK}, {[]api.Named{{Name: "T", Under: number(), Methods: []api.Method{{Name: "U", Sig: fn(0)}}}}, api.OK},
		{[]api.Named{with("T", number(), fn(0), fn(0, U))}, api.ErrNone}, {[]api.Named{with("T", number(), fn(0), fn(1, of(api.TypeSlice, U)), fn(0))}, api.ErrNone}, {[]api.Named{with("T", number(), fn(1, U)), with("U", number(), fn(0, T))}, api.OK}, {[]api.Named{with("T", number(), U)}, api.ErrNone},
		// What may not be is told ahead of what is not there.
		{names("V", U, "T", T), api.ErrArg}, {names("T", T, "V", U), api.ErrArg}, {names("V", U, "V", U), api.ErrArg}, {names("T", fields("x y", U, T)), api.ErrArg}, {append(names("T", T), with("V", number(), U)), api.ErrArg}, {names("V", U, "T", number(), "T", number()), api.ErrArg},
	} {
		w, err := types.New(x.l)
		if err != x.want || (w == nil) != (x.want != api.OK) {
			t.Errorf("P8.5: number %d: New(%s) is %v, %d, want %d", i, dumpAll(x.l), w, err, x.want)
		}
	}
}

// sample is declared types of all kinds of things underneath.
func sample() []api.Named {
	T, U := declared("T"), declared("U")
	return append(names(
		"T", U, "U", fields("x y", number(), of(api.TypeSlice, number())), "A", declared("B"), "B", declared("C"), "C", text(),
		"V", fields("x +U", number(), declared("E")), "E", fields("a b", declared("A"), of(api.TypePointer, T)), "I", of(api.TypeInterface), "S", of(api.TypeSlice, T), "P", of(api.TypePointer, declared("P")), "K", of(api.TypeChan, T), "F", fn(0, T), "Q", declared("S"), "L", declared("P"),
		"Z", of(api.TypeStruct), "N", fields("x", fields("y", fields("z", fn(0)))), "G", param("G", 0, anyEqual()), "H", of(api.TypeNil),
	), with("M", declared("I"), many(1, of(api.TypeSlice, T)), fn(0, fields("x +U", number(), U))))
}

func TestNamed(t *testing.T) {
	w := world(t, sample())
	for _, want := range sample() {
		n, ok := w.Named(want.Name)
		if !ok || dumpNamed(n) != dumpNamed(want) {
			t.Errorf("P8.5: Named(%q) is %s, %v, want %s", want.Name, dumpNamed(n), ok, dumpNamed(want))
		}
	}
	for _, name := range []string{"", "t", "T ", "main.T", "int", "x"} {
		if n, ok := w.Named(name); ok || dumpNamed(n) != dumpNamed(api.Named{}) {
			t.Errorf("P8.5: Named(%q) is %s, %v", name, dumpNamed(n), ok)
		}
	}
}

func TestUnder(t *testing.T) {
	w := world(t, sample())
	for name, want := range map[string]api.Type{
		"T": fields("x y", number(), of(api.TypeSlice, number())), "U": fields("x y", number(), of(api.TypeSlice, number())), "A": text(), "B": text(), "C": text(), "I": of(api.TypeInterface), "M": of(api.TypeInterface),
		"S": of(api.TypeSlice, declared("T")), "Q": of(api.TypeSlice, declared("T")), "P": of(api.TypePointer, declared("P")), "L": of(api.TypePointer, declared("P")), "F": fn(0, declared("T")), "none": declared("none"), "": declared(""),
	} {
		same(t, "P8.5: Under of "+name, w.Under(declared(name)), want)
	}
	for _, x := range []api.Type{{}, number(), of(api.TypeConstStr), of(api.TypePointer, declared("T")), param("T", 0, anyEqual()), fields("x +U", declared("A"), declared("U")), of(api.TypeTuple, declared("T")), of(-3, declared("T")), {Kind: api.TypeInt, Name: "T"}} {
		same(t, "P8.5: Under", w.Under(x), x)
	}
}

// asked wants a question to be answered so of types by their texts.
func asked(t *testing.T, what string, ask func(api.Type) bool, want bool, l ...api.Type) {
	t.Helper()
	for _, x := range l {
		if got := ask(x); got != want {
			t.Errorf("%s of %s is %v", what, dump(x), got)
		}
	}
}

func TestComparable(t *testing.T) {
	w := world(t, append(sample(), names("R", fields("x", param("P", 0, of(api.TypeUnion, number(), declared("R")))), "X", fields("x", param("P", 0, of(api.TypeUnion, declared("X"), declared("S")))))...))
	union := func(l ...api.Type) api.Type { return param("P", 0, of(api.TypeUnion, l...)) }
	asked(t, "P8.6: Comparable", w.Comparable, true,
		number(), text(), truth(), of(api.TypeConstInt), of(api.TypeConstStr), of(api.TypeConstBool), of(api.TypePointer, fn(0)), of(api.TypeChan, fn(0)), of(api.TypeInterface), face("M", fn(0)),
		of(api.TypeStruct), fields("x", number()), fields("x y z", number(), of(api.TypePointer, declared("S")), of(api.TypeInterface)), fields("x y", fields("z", fields("z", text())), declared("V")),
		declared("A"), declared("V"), declared("E"), declared("I"), declared("M"), declared("P"), declared("L"), declared("K"), declared("Z"), declared("G"), declared("R"),
		param("P", 0, anyEqual()), param("P", 7, anyEqual(fn(0))), union(), union(number()), union(number(), text(), truth()), union(declared("A"), declared("V")), union(union(number())), fields("x", param("P", 0, anyEqual())), fields("x y", declared("A"), declared("A")),
		api.Type{Kind: api.TypeParam, Kids: []api.Type{{Kind: api.TypeUnion, N: 2, Kids: []api.Type{number()}}}},
	)
	asked(t, "P8.6: Comparable", w.Comparable, false,
		api.Type{}, of(api.TypeNil), of(api.TypeSlice, number()), fn(0), of(api.TypeTuple), of(api.TypeTuple, number()), of(api.TypeUnion), of(api.TypeUnion, number()), anyEqual(), of(-1), of(18), of(99),
		fields("x", of(api.TypeSlice, number())), fields("x y", number(), fn(0)), fields("y x", fn(0), number()), fields("x", fields("y", of(api.TypeNil))), fields("x", of(api.TypeTuple)), fields("x y", declared("V"), declared("T")),
		declared("T"), declared("U"), declared("S"), declared("Q"), declared("F"), declared("N"), declared("H"), declared("X"), declared("none"), declared(""), fields("x", declared("none")),
		param("P", 0), param("P", 0, of(api.TypeInterface)), param("P", 0, face("M", fn(0))), param("P", 0, number()), param("P", 0, declared("G")), union(number(), of(api.TypeSlice, number())), union(fn(0), number()), union(declared("T")), union(declared("none")), union(param("P", 0)),
		api.Type{Kind: api.TypeParam, Kids: []api.Type{{Kind: api.TypeUnion, N: 2, Kids: []api.Type{fn(0)}}}}, api.Type{Kind: api.TypeParam, Kids: []api.Type{{Kind: api.TypeInterface, N: 1}}},
	)
}

func TestNilable(t *testing.T) {
	w := world(t, sample())
	asked(t, "P8.6: Nilable", w.Nilable, true,
		of(api.TypePointer, number()), of(api.TypeSlice, number()), of(api.TypeChan, number()), fn(0), many(1, number()), of(api.TypeInterface), face("M", fn(0)), declared("I"), declared("M"), declared("S"), declared("Q"), declared("P"), declared("L"), declared("K"), declared("F"))
	asked(t, "P8.6: Nilable", w.Nilable, false,
		api.Type{}, number(), text(), truth(), of(api.TypeConstInt), of(api.TypeConstStr), of(api.TypeConstBool), of(api.TypeNil), of(api.TypeStruct), fields("x", of(api.TypePointer, number())), of(api.TypeUnion), of(api.TypeUnion, of(api.TypeSlice, number())), of(api.TypeTuple), of(api.TypeTuple, fn(0)), param("P", 0, of(api.TypeInterface)), param("P", 0, of(api.TypeUnion, fn(0))), of(-1), of(18),
		declared("T"), declared("A"), declared("V"), declared("Z"), declared("G"), declared("H"), declared("none"))
}

func TestEach(t *testing.T) {
	w := world(t, sample())
	union := func(l ...api.Type) api.Type { return param("P", 0, of(api.TypeUnion, l...)) }
	T := declared("T")
	for i, x := range []struct {
		t     api.Type
		asked []api.Type
		gives int // the question that is answered by false, from 0 on; -1: none
		want  bool
	}{
		{union(number(), text(), truth()), []api.Type{number(), text(), truth()}, -1, true},
		{union(number(), text(), truth()), []api.Type{number(), text(), truth()}, 2, false},
		{union(number(), text(), truth()), []api.Type{number(), text()}, 1, false},
		{union(number(), text(), truth()), []api.Type{number()}, 0, false},
		{union(number()), []api.Type{number()}, -1, true},
		{union(number(), number()), []api.Type{number(), number()}, -1, true},
		{union(T, of(api.TypeSlice, T)), []api.Type{T, of(api.TypeSlice, T)}, -1, true},
		{union(union(number()), text()), []api.Type{union(number()), text()}, -1, true},
		{param("P", 0, anyEqual(number(), text())), []api.Type{number(), text()}, -1, true},
		{union(), nil, -1, false}, {param("P", 0, anyEqual()), nil, -1, false}, {param("P", 0), nil, -1, false}, {param("P", 0, of(api.TypeInterface)), nil, -1, false}, {param("P", 0, face("M", fn(0))), nil, -1, false}, {param("P", 0, number()), nil, -1, false}, {param("P", 0, of(api.TypeTuple, number())), nil, -1, false}, {param("P", 0, T), nil, -1, false},
		{number(), []api.Type{number()}, -1, true}, {number(), []api.Type{number()}, 0, false}, {T, []api.Type{fields("x y", number(), of(api.TypeSlice, number()))}, -1, true}, {declared("A"), []api.Type{text()}, -1, true}, {declared("A"), []api.Type{text()}, 0, false}, {declared("G"), []api.Type{param("G", 0, anyEqual())}, -1, true}, {declared("none"), []api.Type{declared("none")}, -1, true},
		{of(api.TypeUnion, number(), text()), []api.Type{of(api.TypeUnion, number(), text())}, -1, true}, {of(api.TypeConstInt), []api.Type{of(api.TypeConstInt)}, -1, true}, {api.Type{}, []api.Type{{}}, -1, true}, {of(api.TypeTuple, number(), text()), []api.Type{of(api.TypeTuple, number(), text())}, -1, true},
	} {
		var got []api.Type
		answer := w.Each(x.t, func(y api.Type) bool {
			got = append(got, y)
			return len(got)-1 != x.gives
		})
		same(t, fmt.Sprintf("P8.7: number %d: what was asked of %s", i, dump(x.t)), of(0, got...), of(0, x.asked...))
		if answer != x.want {
			t.Errorf("P8.7: number %d: Each of %s is %v", i, dump(x.t), answer)
		}
	}
	for _, x := range []api.Type{number(), T, union(number()), union(), param("P", 0)} {
		if w.Each(x, nil) {
			t.Errorf("rule 1: Each of %s without a question is true", dump(x))
		}
	}
}

func TestNilAndZero(t *testing.T) {
	var none *types.World
	for _, w := range []*types.World{none, {}, world(t, nil)} {
		for _, x := range append([]api.Type{declared("T"), declared("")}, number(), of(api.TypeSlice, declared("T"))) {
			same(t, "P8.8: Under", w.Under(x), x)
		}
		if n, ok := w.Named("T"); ok || dumpNamed(n) != dumpNamed(api.Named{}) {
			t.Errorf("P8.8: Named is %s, %v", dumpNamed(n), ok)
		}
		asked(t, "P8.8: Comparable", w.Comparable, true, number(), of(api.TypePointer, declared("T")), param("P", 0, anyEqual()), fields("x", text()))
		asked(t, "P8.8: Comparable", w.Comparable, false, declared("T"), declared(""), fields("x", declared("T")), fn(0))
		asked(t, "P8.8: Nilable", w.Nilable, true, fn(0), of(api.TypeSlice, declared("T")))
		asked(t, "P8.8: Nilable", w.Nilable, false, declared("T"), declared(""), number())
		each := func(x api.Type) bool {
			return w.Each(x, func(y api.Type) bool { return types.Identical(x, y) || y.Kind == api.TypeInt })
		}
		asked(t, "P8.8: Each", each, true, declared("T"), number(), param("P", 0, of(api.TypeUnion, number())))
		asked(t, "P8.8: Each", each, false, param("P", 0, of(api.TypeUnion, text())), param("P", 0))
	}
}
