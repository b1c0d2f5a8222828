package methods_test

import (
	"fmt"
	"math/rand/v2"
	"slices"
	"testing"

	"recast/api"
	"recast/methods"
	"recast/types"
)

// places is where the items of lists stand, spare room too.
type places struct {
	types map[*api.Type]int
	names map[*string]int
	marks map[*bool]int
}

func noPlaces() places {
	return places{map[*api.Type]int{}, map[*string]int{}, map[*bool]int{}}
}

// claim notes the places of a list's items, and tells whether all are new.
func claim[T any](seen map[*T]int, l []T) bool {
	l = l[:cap(l)]
	for i := range l {
		if seen[&l[i]]++; seen[&l[i]] > 1 {
			return false
		}
	}
	return true
}

// take notes the places of all lists of types, and tells whether all are new.
func (p places) take(l ...api.Type) bool {
	for _, t := range l {
		if !claim(p.types, t.Kids) || !claim(p.names, t.Names) || !claim(p.marks, t.Marks) || !p.take(t.Kids...) {
			return false
		}
	}
	return true
}

// roomy is a type in new memory, with spare room in each list, in which something stands.
func roomy(t api.Type) api.Type {
	room := make([]api.Type, 0, len(t.Kids)+2)
	for _, k := range t.Kids {
		room = append(room, roomy(k))
	}
	t.Kids = append(room, of(77), of(78, number()))[:len(t.Kids)]
	t.Names = append(append(make([]string, 0, len(t.Names)+1), t.Names...), "spare")[:len(t.Names)]
	t.Marks = append(append(make([]bool, 0, len(t.Marks)+1), t.Marks...), true)[:len(t.Marks)]
	return t
}

// whole is a type with what stands in the spare room of its lists.
func whole(t api.Type) string {
	kids := t.Kids[:cap(t.Kids)]
	t.Names, t.Marks, t.Kids = t.Names[:cap(t.Names)], t.Marks[:cap(t.Marks)], nil
	out := dump(t)
	for _, k := range kids {
		out += whole(k)
	}
	return out + ";"
}

// spoil changes all lists of a type, their spare room too.
func spoil(t api.Type) {
	for _, k := range t.Kids {
		spoil(k)
	}
	for i := range t.Kids[:cap(t.Kids)] {
		t.Kids[:cap(t.Kids)][i] = of(-9, of(-9))
	}
	for i := range t.Names[:cap(t.Names)] {
		t.Names[:cap(t.Names)][i] = "spoilt"
	}
	for i := range t.Marks[:cap(t.Marks)] {
		t.Marks[:cap(t.Marks)][i] = !t.Marks[:cap(t.Marks)][i]
	}
}

// wholeWorld is all that a world has.
func wholeWorld(w *types.World) string {
	out := ""
	for _, name := range someNames() {
		n, ok := w.Named(name)
		out += fmt.Sprint(ok, n.Name, dump(n.Under))
		for _, m := range n.Methods {
			out += fmt.Sprint(m.Name, m.Ptr, dump(m.Sig))
		}
	}
	return out
}

// everything is all that the calls answer of two types, as a text; with spoiling, all that they answer is spoilt
// when it was told.
func everything(t *testing.T, w *types.World, v, x api.Type, c *api.Const, spoiling bool) string {
	t.Helper()
	out := ""
	for _, name := range members() {
		f, ok := methods.Lookup(w, v, name)
		out += show(f, ok) + ";"
		if p := noPlaces(); !p.take(f.Type) {
			t.Fatalf("P9.9: what Lookup(%s, %q) answers shares memory", dump(v), name)
		}
		if spoiling {
			spoil(f.Type)
			path := f.Path[:cap(f.Path)]
			for i := range path {
				path[i] = -9
			}
		}
	}
	set := methods.Set(w, v)
	out += showSet(set)
	p := noPlaces()
	for i, m := range set {
		if !p.take(m.Sig) {
			t.Fatalf("P9.9: what Set(%s) answers shares memory", dump(v))
		}
		if spoiling {
			spoil(m.Sig)
			set[i] = api.Method{Name: "spoilt"}
		}
	}
	return out + fmt.Sprint(methods.Implements(w, v, x), methods.Assignable(w, v, x, c), methods.Convertible(w, v, x, c), methods.Satisfies(w, v, x), c != nil && methods.Fits(*c, x))
}

func TestMemory(t *testing.T) {
	random := rand.New(rand.NewPCG(9, 4))
	for i := range 200 {
		_, w := someWorld(random, i%3 == 2)
		was := wholeWorld(w)
		l := asked(random, i%3 == 2)
		// One list twice in what is handed in: each place of an answer gets its own.
		twice := []api.Type{fn(1, number())}
		l = append(l, face("M N", of(api.TypeFunc, twice...), of(api.TypeFunc, twice...)), fields("x y", of(api.TypeTuple, list(number())), fn(2, of(api.TypeTuple, twice...), of(api.TypeTuple, twice...))))
		for _, v := range l {
			v, x := roomy(v), roomy(pick(random, l...))
			c := numeral(api.Int{Neg: true, Mag: append(make([]uint32, 0, 4), 1, 0, 9)[:2]})
			types, number := whole(v)+whole(x), fmt.Sprint(*c, c.Num.Mag[:4])
			first := everything(t, w, v, x, c, true)
			if whole(v)+whole(x) != types || fmt.Sprint(*c, c.Num.Mag[:4]) != number {
				t.Fatalf("P9.9: what was handed in became\n%s%s\nwas\n%s", whole(v), whole(x), types)
			}
			if second := everything(t, w, v, x, c, false); second != first {
				t.Fatalf("P9.9: answered\n%s, then\n%s", first, second)
			}
			// What was answered stays, whatever becomes of the arguments.
			f, ok := methods.Lookup(w, v, "x")
			set := methods.Set(w, v)
			answered := show(f, ok) + showSet(set)
			spoil(v)
			if show(f, ok)+showSet(set) != answered {
				t.Fatalf("P9.9: by what was handed in, the answer became\n%s, was\n%s", show(f, ok)+showSet(set), answered)
			}
		}
		if wholeWorld(w) != was {
			t.Fatalf("P9.9: the world became\n%s\nwas\n%s", wholeWorld(w), was)
		}
	}
}

// Two paths of one type have nothing in common.
func TestPathsApart(t *testing.T) {
	w := sample(t)
	a, _ := methods.Lookup(w, declared("T"), "w")
	b, _ := methods.Lookup(w, declared("T"), "z")
	a.Path = append(a.Path, 7)
	for i := range a.Path {
		a.Path[i] = -9
	}
	again, _ := methods.Lookup(w, declared("T"), "w")
	if !slices.Equal(b.Path, []int{0, 1}) || !slices.Equal(again.Path, []int{1, 1, 0}) {
		t.Errorf("P9.9: the paths are %v, %v", b.Path, again.Path)
	}
}
