package methods_test

import (
	"testing"

	"recast/api"
	"recast/methods"
	"recast/types"
)

func TestSet(t *testing.T) {
	w := sample(t)
	d := declared
	for _, x := range []struct {
		of   api.Type
		want string
	}{
		{d("U"), "N(int)"},
		{to(d("U")), "*M() N(int)"},
		{d("T"), "N(int) Own()"},
		{to(d("T")), "*M() N(int) Own() *Own2(int)"},
		{d("Copy"), "Mine() N(int)"},
		{to(d("Copy")), "*M() Mine() N(int)"},
		{d("K"), "Get()"},
		{to(d("K")), "Get() *Put(int)"},
		{d("I"), "M()"},
		{d("J"), "M()"},
		{to(d("I")), ""},
		{to(d("J")), ""},
		{d("Deaf"), "Own(int) Q()"},
		{d("P"), "*M() N(int)"},
		{to(d("P")), ""},
		{d("PP"), ""},
		{to(d("PP")), ""},
		{d("PI"), ""},
		{to(to(d("T"))), ""},
		{d("HasI"), "Any() M()"},
		{to(d("HasI")), "Any() M()"},
		{d("HasP"), "Own()"},
		{d("Ring"), "Spin()"},
		{d("Twice"), ""},
		{to(d("Near")), ""},
		{d("Bare"), "N(int)"},
		{to(d("Bare")), "*M() N(int)"},
		{fields("+T M", d("T"), number()), "N(int) Own()"},
		{to(fields("+T M", d("T"), number())), "N(int) Own() *Own2(int)"},
		{face("A B", fn(0), fn(0, text())), "A() B() string"},
		{param("P", 0, face("M", fn(0))), "M()"},
		{param("P", 0, d("I")), "M()"},
		{to(param("P", 0, d("I"))), "M()"},
		{param("P", 0, anyEqual()), ""},
		{number(), ""}, {list(d("K")), ""}, {d("Z"), ""}, {to(d("Z")), ""}, {nothing(), ""}, {of(api.TypePointer), ""}, {of(api.TypeInterface, fn(0)), ""}, {api.Type{}, ""},
	} {
		if got := showSet(methods.Set(w, x.of)); got != x.want {
			t.Errorf("P9.2: Set(%s) is %q, want %q", types.Text(x.of), got, x.want)
		}
	}
}

// Names rise by their bytes, however they stand.
func TestSetRises(t *testing.T) {
	w := world(t, with("T", fields("+U", declared("U")), "b", "*B", "a", ""), with("U", number(), "*ab", "é", "A", "b", "aa"))
	for _, x := range []struct {
		of   api.Type
		want []string
	}{
		{declared("T"), []string{"", "A", "a", "aa", "b", "é"}},
		{to(declared("T")), []string{"", "A", "B", "a", "aa", "ab", "b", "é"}},
	} {
		l := methods.Set(w, x.of)
		for i := range max(len(l), len(x.want)) {
			if len(l) != len(x.want) || l[i].Name != x.want[i] {
				t.Fatalf("P9.2: Set(%s) is %s, want %q", types.Text(x.of), showSet(l), x.want)
			}
		}
	}
}

func TestImplements(t *testing.T) {
	w := sample(t)
	d := declared
	mn := face("M N", fn(0), fn(1, number()))
	for _, x := range []struct {
		of, face api.Type
		want     bool
	}{
		{d("U"), d("I"), false},
		{to(d("U")), d("I"), true},
		{to(d("U")), d("J"), true},
		{to(d("U")), mn, true},
		{to(d("T")), mn, true},
		{d("T"), mn, false},
		{d("T"), face("N", fn(1, number())), true},
		{d("T"), face("N", fn(0)), false},
		{d("T"), face("N", fn(0, number())), false},
		{d("T"), face("N", api.Type{Kind: api.TypeFunc, N: 1, Flag: true, Kids: []api.Type{number()}}), false},
		{d("T"), face("x", truth()), false},
		{to(d("U")), face("M N Z", fn(0), fn(1, number()), fn(0)), false},
		{d("P"), d("I"), true},
		{to(d("P")), d("I"), false},
		{d("I"), d("I"), true},
		{d("I"), mn, false},
		{mn, d("I"), true},
		{to(d("I")), d("I"), false},
		{to(d("I")), face(""), true},
		{param("Q", 0, d("I")), d("I"), true},
		{param("Q", 0, anyEqual()), d("I"), false},
		{d("Deaf"), face("M", fn(0)), false},
		{d("Deaf"), d("Deaf"), false},
		// One name twice: no type has both.
		{to(d("U")), face("M M", fn(0), fn(0, text())), false},
		{to(d("U")), face("M M", fn(0), fn(0)), true},
		// All have no methods.
		{number(), face(""), true}, {nothing(), face(""), true}, {of(api.TypeTuple), face(""), true}, {d("Z"), face(""), true}, {api.Type{}, face(""), true}, {of(api.TypeConstInt), face(""), true},
		// What is no interface is not implemented.
		{d("T"), d("T"), false}, {d("T"), number(), false}, {d("I"), to(d("I")), false}, {d("I"), param("Q", 0, d("I")), false}, {number(), union(number()), false}, {number(), d("Z"), false}, {number(), api.Type{}, false}, {number(), anyEqual(), false},
	} {
		if got := methods.Implements(w, x.of, x.face); got != x.want {
			t.Errorf("P9.3: Implements(%s, %s) is %v", types.Text(x.of), types.Text(x.face), got)
		}
	}
}
