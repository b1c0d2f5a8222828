package types_test

import (
	"fmt"
	"math/rand/v2"
	"slices"
	"strings"
	"testing"

	"recast/api"
	"recast/types"
)

// The answers are held here against those of a second reading of the chapter, of types by chance.

// key is what counts for being identical, as a text.
func key(t api.Type) string {
	if t.Kind == api.TypeParam {
		return fmt.Sprintf("<%q %d>", t.Name, t.N)
	}
	out := fmt.Sprintf("%d %q %d %v %q %v(", t.Kind, t.Name, t.N, t.Flag, t.Names, t.Marks)
	for _, k := range t.Kids {
		out += key(k)
	}
	return out + ")"
}

// spelt is a type's text.
func spelt(t api.Type) string {
	var kids []string
	for _, k := range t.Kids {
		kids = append(kids, spelt(k))
	}
	first := strings.Join(kids[:min(len(kids), 1)], "")
	plain := []string{"", "int", "string", "bool", "constant int", "constant string", "constant bool", "nil", t.Name, t.Name, "*" + first, "[]" + first, "chan " + first, speltFunc(t, kids), speltMembers(t, kids), speltMembers(t, kids), strings.Join(kids, " | "), "(" + strings.Join(kids, ", ") + ")"}
	switch {
	case t.Kind < 0 || t.Kind >= len(plain):
		return ""
	case t.Kind == api.TypeUnion && t.N == 1:
		return "comparable"
	}
	return plain[t.Kind]
}

func speltFunc(t api.Type, kids []string) string {
	n := min(max(t.N, 0), len(kids))
	params, results := slices.Clone(kids[:n]), kids[n:]
	if t.Flag && n > 0 {
		last := params[n-1]
		if t.Kids[n-1].Kind == api.TypeSlice {
			last = last[len("[]"):]
		}
		params[n-1] = "..." + last
	}
	out := "func(" + strings.Join(params, ", ") + ")"
	if len(results) == 1 {
		return out + " " + results[0]
	}
	if len(results) > 1 {
		return out + " (" + strings.Join(results, ", ") + ")"
	}
	return out
}

func speltMembers(t api.Type, kids []string) string {
	names, marks := append(slices.Clone(t.Names), make([]string, len(kids))...), append(slices.Clone(t.Marks), make([]bool, len(kids))...)
	var members []string
	for i, k := range kids {
		switch {
		case t.Kind == api.TypeInterface && t.Kids[i].Kind == api.TypeFunc:
			members = append(members, " "+names[i]+strings.TrimPrefix(k, "func"))
		case t.Kind == api.TypeInterface:
			members = append(members, " "+names[i]+k)
		case marks[i]:
			members = append(members, " "+k)
		default:
			members = append(members, " "+names[i]+" "+k)
		}
	}
	switch {
	case t.Kind == api.TypeInterface && len(members) == 0:
		return "any"
	case t.Kind == api.TypeInterface:
		return "interface {" + strings.Join(members, ";") + " }"
	case len(members) == 0:
		return "struct {}"
	}
	return "struct {" + strings.Join(members, ";") + " }"
}

// replaced is a type with arguments in the place of type parameters.
func replaced(t api.Type, args []api.Type) api.Type {
	for i, a := range args {
		if t.Kind == api.TypeParam && t.N == i {
			return a
		}
	}
	var kids []api.Type
	for _, k := range t.Kids {
		kids = append(kids, replaced(k, args))
	}
	t.Kids = kids
	return t
}

func TestByChance(t *testing.T) {
	random := rand.New(rand.NewPCG(8, 3))
	for i := range 60000 {
		x := some(random, 3, i%2 == 1)
		if got, want := types.Text(x), spelt(x); got != want {
			t.Fatalf("P8.3: Text(%s) is %q, want %q", dump(x), got, want)
		}
		var args []api.Type
		for range random.IntN(4) {
			args = append(args, some(random, 1, true))
		}
		if got, want := types.Subst(x, args), replaced(x, args); dump(got) != dump(want) {
			t.Fatalf("P8.4: Subst(%s, %s) is %s, want %s", dump(x), dump(of(0, args...)), dump(got), dump(want))
		}
		if got := types.Subst(x, nil); dump(got) != dump(x) {
			t.Fatalf("P8.9: Subst(%s) of no arguments is %s", dump(x), dump(got))
		}
	}
}

// Identical is an equivalence, whose classes are told by key; identical types have one text.
func TestEquivalence(t *testing.T) {
	random := rand.New(rand.NewPCG(8, 9))
	var pool []api.Type
	for i := range 900 {
		pool = append(pool, some(random, i%4, i%3 == 0))
	}
	base, others := changed()
	pool = append(pool, base, base, param("A", 0, base), param("A", 0))
	for _, x := range others {
		pool = append(pool, x)
	}
	pairs := 0
	for _, a := range pool {
		for _, b := range pool {
			want := key(a) == key(b)
			if got := types.Identical(a, b); got != want {
				t.Fatalf("P8.2, P8.9: Identical(%s, %s) is %v", dump(a), dump(b), got)
			}
			if want && types.Text(a) != types.Text(b) {
				t.Fatalf("P8.9: the texts of %s and %s are %q and %q", dump(a), dump(b), types.Text(a), types.Text(b))
			}
			if want && dump(a) != dump(b) {
				pairs++
			}
		}
	}
	if pairs == 0 {
		t.Error("no two identical types that are not the same came by chance")
	}
}

// refusal is what New must answer, told by who reaches whom.
func refusal(l []api.Named) api.Errno {
	number := map[string]int{}
	for i, n := range l {
		if _, twice := number[n.Name]; twice {
			return api.ErrArg
		}
		number[n.Name] = i
	}
	reach := make([][]bool, len(l))
	for i, n := range l {
		reach[i] = make([]bool, len(l))
		var hold func(t api.Type)
		hold = func(t api.Type) {
			if j, found := number[t.Name]; found && t.Kind == api.TypeNamed {
				reach[i][j] = true
			}
			if t.Kind == api.TypeStruct {
				for _, k := range t.Kids {
					hold(k)
				}
			}
		}
		hold(n.Under)
	}
	for k := range l {
		for i := range l {
			for j := range l {
				reach[i][j] = reach[i][j] || reach[i][k] && reach[k][j]
			}
		}
	}
	for i := range l {
		if reach[i][i] {
			return api.ErrArg
		}
	}
	for _, n := range l {
		for _, m := range append([]api.Method{{Sig: n.Under}}, n.Methods...) {
			if lost(m.Sig, number) {
				return api.ErrNone
			}
		}
	}
	return api.OK
}

// lost tells whether a declared type in t is none of those.
func lost(t api.Type, number map[string]int) bool {
	if _, found := number[t.Name]; t.Kind == api.TypeNamed && !found {
		return true
	}
	return slices.ContainsFunc(t.Kids, func(k api.Type) bool { return lost(k, number) })
}

// equals is which declared types may be compared: all, but those of which it is found that they may not.
func equals(l []api.Named) func(t api.Type) bool {
	under := map[string]api.Type{}
	may := map[string]int{}
	for _, n := range l {
		under[n.Name], may[n.Name] = n.Under, 1
	}
	var ask func(t api.Type) bool
	ask = func(t api.Type) bool {
		all := func(l []api.Type) bool {
			return !slices.ContainsFunc(l, func(x api.Type) bool { return !ask(x) })
		}
		switch t.Kind {
		case api.TypeNamed:
			return may[t.Name] == 1
		case api.TypeStruct:
			return all(t.Kids)
		case api.TypeParam:
			return len(t.Kids) > 0 && t.Kids[0].Kind == api.TypeUnion && (t.Kids[0].N == 1 || all(t.Kids[0].Kids))
		}
		return slices.Contains([]int{1, 2, 3, 4, 5, 6, 10, 12, 15}, t.Kind)
	}
	for range l {
		for _, n := range l {
			if !ask(n.Under) {
				may[n.Name] = 0
			}
		}
	}
	return ask
}

func TestWorldsByChance(t *testing.T) {
	random := rand.New(rand.NewPCG(8, 5))
	seen := map[api.Errno]int{}
	for range 40000 {
		var l []api.Named
		for _, name := range []string{"T", "U", "V", "W"} {
			if random.IntN(12) == 0 {
				name = "T"
			}
			n := api.Named{Name: name, Under: some(random, random.IntN(4), random.IntN(4) == 0)}
			if random.IntN(4) == 0 {
				n.Methods = []api.Method{{Name: "m", Sig: fn(1, some(random, 1, false))}}
			}
			if random.IntN(9) > 0 {
				l = append(l, n)
			}
		}
		w, err := types.New(l)
		seen[err]++
		if want := refusal(l); err != want || (w == nil) != (want != api.OK) {
			t.Fatalf("P8.5: New of\n%s\nis %v, %d, want %d", dumpAll(l), w, err, want)
		}
		if w != nil {
			questions(t, random, w, l)
		}
	}
	for _, e := range []api.Errno{api.OK, api.ErrArg, api.ErrNone} {
		if seen[e] < 1000 {
			t.Errorf("the answer %d came %d times by chance", e, seen[e])
		}
	}
}

// questions asks a world of declared types about some types.
func questions(t *testing.T, random *rand.Rand, w *types.World, l []api.Named) {
	t.Helper()
	may := equals(l)
	ask := []api.Type{declared("none"), some(random, 2, false), some(random, 3, true)}
	for _, n := range l {
		ask = append(ask, declared(n.Name))
	}
	for _, x := range ask {
		under := x
		for range l {
			for _, n := range l {
				if under.Kind == api.TypeNamed && under.Name == n.Name {
					under = n.Under
				}
			}
		}
		if got := w.Under(x); dump(got) != dump(under) {
			t.Fatalf("P8.5: of\n%s\nUnder(%s) is %s, want %s", dumpAll(l), dump(x), dump(got), dump(under))
		}
		if got := w.Comparable(x); got != may(x) {
			t.Fatalf("P8.6: of\n%s\nComparable(%s) is %v", dumpAll(l), dump(x), got)
		}
		if got := w.Nilable(x); got != slices.Contains([]int{10, 11, 12, 13, 15}, under.Kind) {
			t.Fatalf("P8.6: of\n%s\nNilable(%s) is %v", dumpAll(l), dump(x), got)
		}
	}
}
