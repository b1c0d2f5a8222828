package methods_test

import (
	"testing"

	"recast/api"
	"recast/methods"
	"recast/types"
)

// sample is a world with each kind of way to a field and a method.
func sample(t *testing.T) *types.World {
	t.Helper()
	return world(t,
		with("U", fields("y z", number(), text()), "*M", "N"),
		with("V", fields("y +W", number(), declared("W"))),
		with("W", fields("w z deep", number(), number(), fields("in", number()))),
		with("T", fields("+U +V x", declared("U"), declared("V"), truth()), "Own", "*Own2"),
		with("Copy", declared("T"), "Mine"),
		with("K", number(), "Get", "*Put"),
		with("I", face("M", fn(0))),
		with("J", declared("I")),
		with("Deaf", face("M Q", fn(0), fn(0)), "M", "Own"),
		with("P", to(declared("U")), "Own"),
		with("PP", to(declared("P")), "Own"),
		with("PI", to(declared("I")), "Own"),
		with("A", fields("+W", declared("W"))),
		with("B", fields("+W", declared("W"))),
		with("D", fields("+A +B", declared("A"), declared("B"))),
		with("Far", fields("+Mid +W", declared("Mid"), declared("W"))),
		with("Mid", fields("+W", declared("W"))),
		with("HasI", fields("+I +any", declared("I"), face("Any", fn(0)))),
		with("HasP", fields("+P +U2", declared("P"), to(declared("T")))),
		with("Ring", fields("+Ring v", to(declared("Ring")), number()), "Spin"),
		with("Twice", fields("a b a M", number(), number(), number(), number()), "M", "N", "N", "b"),
		with("Near", fields("+Twice +U b", declared("Twice"), declared("U"), text())),
		with("Bare", fields("+s +V", fields("+U s", declared("U"), number()), declared("V"))),
		with("Both", fields("+s +s2", fields("k", number()), fields("k", number()))),
		with("L", list(declared("T")), "Len"),
		with("Gen", param("G", 0, face("M", fn(0))), "Own"),
	)
}

func TestLookupFinds(t *testing.T) {
	w := sample(t)
	d := declared
	for _, x := range []struct {
		of   api.Type
		name string
		want string
	}{
		// Depth 0.
		{d("T"), "x", `field of "T", bool, at [2]`},
		{d("T"), "U", `field of "T", U, at [0]`},
		{d("T"), "Own", `method of "T", func(), at []`},
		{d("T"), "Own2", `method of "T", func(int), at [], ptr`},
		{d("K"), "Get", `method of "K", func(), at []`},
		{d("K"), "Put", `method of "K", func(int), at [], ptr`},
		{d("L"), "Len", `method of "L", func(), at []`},
		{d("I"), "M", `imethod of "I", func(), at []`},
		{d("J"), "M", `imethod of "J", func(), at []`},
		{d("Deaf"), "Q", `imethod of "Deaf", func(), at []`},
		{d("Deaf"), "Own", `method of "Deaf", func(int), at []`},
		{face("A B", fn(0), fn(1, text())), "B", `imethod of "", func(string), at []`},
		{fields("a b", number(), list(text())), "b", `field of "", []string, at [1]`},
		// Deeper ones.
		{d("T"), "z", `field of "U", string, at [0 1]`},
		{d("T"), "W", `field of "V", W, at [1 1]`},
		{d("T"), "w", `field of "W", int, at [1 1 0]`},
		{d("T"), "deep", `field of "W", struct { in int }, at [1 1 2]`},
		{d("T"), "M", `method of "U", func(), at [0], ptr`},
		{d("T"), "N", `method of "U", func(int), at [0]`},
		{d("HasI"), "M", `imethod of "I", func(), at [0]`},
		{d("HasI"), "Any", `imethod of "", func(), at [1]`},
		{d("Bare"), "s", `field of "Bare", struct { U; s int }, at [0]`},
		{d("Bare"), "M", `method of "U", func(), at [0 0], ptr`},
		{d("Near"), "b", `field of "Near", string, at [2]`},
		{d("Near"), "y", `field of "U", int, at [1 0]`},
		{fields("+T", d("T")), "w", `field of "W", int, at [0 1 1 0]`},
		// Once, by the first way of the least depth.
		{d("D"), "w", `field of "W", int, at [0 0 0]`},
		{d("Far"), "w", `field of "W", int, at [1 0]`},
		// What is declared as another declared type has its fields, not its methods.
		{d("Copy"), "x", `field of "Copy", bool, at [2]`},
		{d("Copy"), "Mine", `method of "Copy", func(), at []`},
		{d("Copy"), "Own", `none`},
		{d("Copy"), "N", `method of "U", func(int), at [0]`},
		// Type parameters.
		{param("P", 0, face("M", fn(0))), "M", `imethod of "", func(), at []`},
		{param("P", 0, d("I")), "M", `imethod of "", func(), at []`},
		{param("P", 0, d("T")), "x", `none`},
		{param("P", 0, fields("x", number())), "x", `none`},
		{param("P", 0, union(d("T"))), "x", `none`},
		{param("P", 0, anyEqual()), "M", `none`},
		{param("P", 0), "M", `none`},
		{d("Gen"), "M", `imethod of "Gen", func(), at []`},
	} {
		if got := show(methods.Lookup(w, x.of, x.name)); got != x.want {
			t.Errorf("P9.1: Lookup(%s, %s) is %s, want %s", types.Text(x.of), x.name, got, x.want)
		}
	}
}

func TestLookupThroughPointers(t *testing.T) {
	w := sample(t)
	d := declared
	for _, x := range []struct {
		of   api.Type
		name string
		want string
	}{
		{to(d("T")), "x", `field of "T", bool, at [2], deref`},
		{to(d("T")), "w", `field of "W", int, at [1 1 0], deref`},
		{to(d("T")), "M", `method of "U", func(), at [0], ptr, deref`},
		{to(d("T")), "Own2", `method of "T", func(int), at [], ptr, deref`},
		{to(d("K")), "Get", `method of "K", func(), at [], deref`},
		{to(fields("a", number())), "a", `field of "", int, at [0], deref`},
		{d("P"), "y", `field of "U", int, at [0], deref`},
		{d("P"), "M", `method of "U", func(), at [], ptr, deref`},
		{d("P"), "Own", `none`},
		{to(d("P")), "y", `none`},
		{to(d("P")), "Own", `none`},
		{d("PP"), "y", `none`},
		{d("PP"), "Own", `method of "PP", func(), at []`},
		{d("PI"), "M", `none`},
		{d("PI"), "Own", `method of "PI", func(), at []`},
		{to(to(d("T"))), "x", `none`},
		{to(d("I")), "M", `none`},
		{to(d("J")), "M", `none`},
		{to(face("M", fn(0))), "M", `none`},
		{to(param("Q", 0, d("I"))), "M", `imethod of "", func(), at [], deref`},
		{to(d("Gen")), "Own", `method of "Gen", func(), at [], deref`},
		{to(d("HasI")), "M", `imethod of "I", func(), at [0], deref`},
		{to(d("Ring")), "v", `field of "Ring", int, at [1], deref`},
		// What an embedded pointer points to is not looked at.
		{d("HasP"), "P", `field of "HasP", P, at [0]`},
		{d("HasP"), "y", `none`},
		{d("HasP"), "x", `none`},
		{d("HasP"), "Own", `method of "P", func(), at [0]`},
		{d("Ring"), "v", `field of "Ring", int, at [1]`},
		{d("Ring"), "Spin", `method of "Ring", func(), at []`},
	} {
		if got := show(methods.Lookup(w, x.of, x.name)); got != x.want {
			t.Errorf("P9.1: Lookup(%s, %s) is %s, want %s", types.Text(x.of), x.name, got, x.want)
		}
	}
}

func TestLookupFindsNothing(t *testing.T) {
	w := sample(t)
	d := declared
	for _, x := range []struct {
		of   api.Type
		name string
	}{
		// Twice at the least depth: of two embedded types, of one, fields and methods.
		{d("T"), "y"}, {to(d("T")), "y"}, {d("D"), "W"}, {d("Twice"), "a"}, {d("Twice"), "M"}, {d("Twice"), "N"}, {d("Twice"), "b"}, {d("Deaf"), "M"}, {d("Near"), "M"}, {d("Near"), "N"}, {d("Both"), "k"},
		// Nowhere.
		{d("T"), "q"}, {d("T"), ""}, {d("T"), "in"}, {d("T"), "X"}, {d("K"), "get"}, {d("L"), "x"}, {d("Z"), "x"}, {to(d("Z")), "x"}, {number(), "x"}, {text(), "Get"}, {list(d("T")), "x"}, {of(api.TypeChan, d("T")), "x"}, {fn(1, d("T"), d("T")), "x"}, {of(api.TypeTuple, d("T")), "x"}, {union(d("T")), "x"}, {nothing(), "x"}, {api.Type{}, ""}, {of(api.TypeInterface), "M"}, {of(api.TypeStruct), ""},
		{of(api.TypeConstInt), "Get"}, {of(99, d("T")), "x"}, {of(-1), "x"},
		// Such as no source has.
		{of(api.TypePointer), "x"}, {to(of(api.TypePointer)), "x"}, {of(api.TypeStruct, number()), ""}, {of(api.TypeInterface, fn(0)), "M"}, {of(api.TypeParam), "M"}, {of(api.TypeNamed), ""},
		{api.Type{Kind: api.TypeStruct, Names: []string{"x"}, Marks: []bool{true}}, "x"}, {api.Type{Kind: api.TypeInterface, Names: []string{"M"}}, "M"},
		{api.Type{Kind: api.TypeStruct, Name: "T", Names: []string{"a"}, Kids: []api.Type{number()}}, "Own"}, {api.Type{Kind: api.TypeInt, Name: "T"}, "Own"}, {api.Type{Kind: api.TypeParam, Name: "T"}, "Own"},
	} {
		if got := show(methods.Lookup(w, x.of, x.name)); got != "none" {
			t.Errorf("P9.1: Lookup(%s, %s) is %s, want none", dump(x.of), x.name, got)
		}
	}
	// Of no world there are no declared types; all else is as ever.
	for _, none := range []*types.World{nil, {}} {
		if got := show(methods.Lookup(none, d("T"), "x")); got != "none" {
			t.Errorf("P9.1: Lookup(T, x) without a world is %s", got)
		}
		if got, want := show(methods.Lookup(none, to(fields("+T a", d("T"), number())), "a")), `field of "", int, at [1], deref`; got != want {
			t.Errorf("P9.1: Lookup without a world is %s, want %s", got, want)
		}
		if got := len(methods.Set(none, d("T"))); got != 0 {
			t.Errorf("P9.2: %d methods without a world", got)
		}
	}
}

func TestExamples(t *testing.T) {
	w := world(t,
		with("U", fields("y", number()), "*M"),
		with("T", fields("+U x", declared("U"), number())),
		with("V", fields("y", number())),
		with("S", fields("+U +V", declared("U"), declared("V"))),
	)
	if got, want := show(methods.Lookup(w, declared("T"), "y")), `field of "U", int, at [0 0]`; got != want {
		t.Errorf("P9.1: Lookup(T, y) is %s, want %s", got, want)
	}
	if got := showSet(methods.Set(w, declared("T"))); got != "" {
		t.Errorf("P9.2: Set(T) is %s", got)
	}
	if got := showSet(methods.Set(w, to(declared("T")))); got != "*M()" {
		t.Errorf("P9.2: Set(*T) is %s", got)
	}
	if got := show(methods.Lookup(w, declared("S"), "y")); got != "none" {
		t.Errorf("P9.1: Lookup(S, y) is %s", got)
	}
}

// A declared type of an empty name is one like others, and no type without a name is it.
func TestEmptyName(t *testing.T) {
	w := world(t, with("", fields("x", number()), "Get"), with("T", fields("+a +b", declared(""), fields("+in", declared("")))))
	for _, x := range []struct {
		of   api.Type
		name string
		want string
	}{
		{declared(""), "Get", `method of "", func(), at []`},
		{declared("T"), "Get", `method of "", func(), at [0]`},
		{declared("T"), "x", `field of "", int, at [0 0]`},
		{fields("+a +b", fields("k", number()), declared("")), "x", `field of "", int, at [1 0]`},
		{fields("k", number()), "Get", `none`},
		{face("M", fn(0)), "Get", `none`},
	} {
		if got := show(methods.Lookup(w, x.of, x.name)); got != x.want {
			t.Errorf("P9.1: Lookup(%s, %s) is %s, want %s", dump(x.of), x.name, got, x.want)
		}
	}
}
