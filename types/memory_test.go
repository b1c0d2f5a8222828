package types_test

import (
	"math/rand/v2"
	"slices"
	"testing"

	"recast/api"
	"recast/types"
)

// places is where the items of lists stand, spare room too.
type places struct {
	types map[*api.Type]int
	names map[*string]int
	marks map[*bool]int
	sigs  map[*api.Method]int
}

func noPlaces() places {
	return places{map[*api.Type]int{}, map[*string]int{}, map[*bool]int{}, map[*api.Method]int{}}
}

// claim notes the places of a list's items, and tells whether all are new.
func claim[T any](seen map[*T]int, l []T) bool {
	l = l[:cap(l)]
	for i := range l {
		if seen[&l[i]]++; seen[&l[i]] > 1 {
			return false
		}
	}
	return true
}

// take notes the places of all lists of types, and tells whether all are new.
func (p places) take(l ...api.Type) bool {
	for _, t := range l {
		if !claim(p.types, t.Kids) || !claim(p.names, t.Names) || !claim(p.marks, t.Marks) || !p.take(t.Kids...) {
			return false
		}
	}
	return true
}

// takeNamed notes the places of all lists of a declared type.
func (p places) takeNamed(n api.Named) bool {
	if !p.take(n.Under) || !claim(p.sigs, n.Methods) {
		return false
	}
	for _, m := range n.Methods {
		if !p.take(m.Sig) {
			return false
		}
	}
	return true
}

// copied is a type in new memory, with spare room in each list, in which something stands.
func copied(t api.Type) api.Type {
	room := make([]api.Type, 0, len(t.Kids)+2)
	for _, k := range t.Kids {
		room = append(room, copied(k))
	}
	spare := append(room, of(77), of(78, number()))
	t.Kids = spare[:len(t.Kids)]
	t.Names = append(append(make([]string, 0, len(t.Names)+1), t.Names...), "spare")[:len(t.Names)]
	t.Marks = append(append(make([]bool, 0, len(t.Marks)+1), t.Marks...), true)[:len(t.Marks)]
	return t
}

func copiedNamed(n api.Named) api.Named {
	n.Under = copied(n.Under)
	room := make([]api.Method, 0, len(n.Methods)+1)
	for _, m := range n.Methods {
		m.Sig = copied(m.Sig)
		room = append(room, m)
	}
	n.Methods = append(room, api.Method{Name: "spare"})[:len(n.Methods)]
	return n
}

// whole is a type with what stands in the spare room of its lists.
func whole(t api.Type) string {
	t.Names, t.Marks, t.Kids = t.Names[:cap(t.Names)], t.Marks[:cap(t.Marks)], t.Kids[:cap(t.Kids)]
	kids := t.Kids
	t.Kids = nil
	out := dump(t)
	for _, k := range kids {
		out += whole(k)
	}
	return out + ";"
}

func wholeNamed(n api.Named) string {
	out := n.Name + whole(n.Under)
	for _, m := range n.Methods[:cap(n.Methods)] {
		out += m.Name + whole(m.Sig)
	}
	return out
}

// spoil changes all lists of a type, their spare room too.
func spoil(t api.Type) {
	for _, k := range t.Kids {
		spoil(k)
	}
	for i := range t.Kids[:cap(t.Kids)] {
		t.Kids[:cap(t.Kids)][i] = of(-9, of(-9))
	}
	for i := range t.Names[:cap(t.Names)] {
		t.Names[:cap(t.Names)][i] = "spoilt"
	}
	for i := range t.Marks[:cap(t.Marks)] {
		t.Marks[:cap(t.Marks)][i] = !t.Marks[:cap(t.Marks)][i]
	}
}

func spoilNamed(n api.Named) {
	spoil(n.Under)
	for i := range n.Methods[:cap(n.Methods)] {
		spoil(n.Methods[:cap(n.Methods)][i].Sig)
		n.Methods[:cap(n.Methods)][i] = api.Method{Name: "spoilt"}
	}
}

// answers is the types that calls answer, of one call each.
func answers(w *types.World, t api.Type, args []api.Type) map[string][]api.Type {
	var asked []api.Type
	w.Each(t, func(x api.Type) bool {
		asked = append(asked, x)
		return true
	})
	return map[string][]api.Type{
		"Make":    {types.Make(api.TypeFunc, args...), types.Make(api.TypeStruct, t)},
		"Subst":   {types.Subst(t, args)},
		"Default": {types.Default(t)},
		"Under":   {w.Under(t)},
		"Each":    asked,
	}
}

// rich is types that have all kinds of lists in them, with spare room.
func rich() []api.Type {
	random := rand.New(rand.NewPCG(8, 10))
	out := []api.Type{copied(fields("x +U", fn(1, number(), param("A", 0)), declared("U"))), copied(declared("M"))}
	for _, n := range sample() {
		out = append(out, copied(n.Under), declared(n.Name))
	}
	for i := range 500 {
		out = append(out, copied(some(random, i%4, i%2 == 0)))
	}
	args := []api.Type{copied(fields("x", param("A", 0))), copied(of(api.TypeUnion, number()))}
	return append(out, copied(param("P", 5, of(api.TypeUnion, args...))), copied(many(2, param("A", 0), param("A", 0), param("B", 1))))
}

func TestNewMemory(t *testing.T) {
	w := world(t, sample())
	// One list twice in what is handed in: each place gets its own.
	shared := []api.Type{number(), fields("x", text())}
	list := append(rich(), fn(1, of(api.TypeTuple, shared...), of(api.TypeTuple, shared...)))
	for _, x := range list {
		args := []api.Type{copied(fields("x +T", number(), declared("T"))), copied(of(api.TypeSlice, x))}
		was := whole(x) + whole(args[0]) + whole(args[1])
		for what, l := range answers(w, x, args) {
			p := noPlaces()
			if !p.take(l...) {
				t.Fatalf("P8.10: what %s answers of %s shares memory", what, dump(x))
			}
			for _, a := range l {
				spoil(a)
			}
			if is := whole(x) + whole(args[0]) + whole(args[1]); is != was {
				t.Fatalf("P8.10: by what %s answered, the types became\n%s\nwere\n%s", what, is, was)
			}
		}
	}
	for _, n := range sample() {
		want := dumpNamed(n)
		got, _ := w.Named(n.Name)
		again, _ := w.Named(n.Name)
		p := noPlaces()
		if !p.takeNamed(got) || !p.takeNamed(again) || !p.take(w.Under(declared(n.Name))) {
			t.Fatalf("P8.10: what Named answers of %s shares memory", n.Name)
		}
		spoilNamed(got)
		if dumpNamed(again) != want {
			t.Fatalf("P8.10: Named(%s) became %s, was %s", n.Name, dumpNamed(again), want)
		}
	}
}

// A world does not change, whatever becomes of what it was made of and of what it answered.
func TestNothingKept(t *testing.T) {
	var l []api.Named
	for _, n := range sample() {
		l = append(l, copiedNamed(n))
	}
	w, other := world(t, l), world(t, l)
	for _, n := range l {
		spoilNamed(n)
	}
	clear(l)
	for range 2 {
		for _, n := range sample() {
			got, ok := w.Named(n.Name)
			if !ok || dumpNamed(got) != dumpNamed(n) {
				t.Fatalf("P8.10: Named(%s) is %s, %v, want %s", n.Name, dumpNamed(got), ok, dumpNamed(n))
			}
			spoilNamed(got)
			under, fresh := w.Under(declared(n.Name)), other.Under(declared(n.Name))
			if dump(under) != dump(fresh) {
				t.Fatalf("P8.10: Under(%s) is %s, want %s", n.Name, dump(under), dump(fresh))
			}
			w.Each(declared(n.Name), func(x api.Type) bool {
				spoil(x)
				return true
			})
			spoil(under)
		}
	}
}

func TestHandedInUnchanged(t *testing.T) {
	w := world(t, sample())
	for _, x := range rich() {
		y := copied(x)
		args := append(make([]api.Type, 0, 4), copied(of(api.TypeSlice, number())), copied(fields("x", text())))
		room := args[:4]
		was, wasArgs := whole(x)+whole(y), whole(of(0, room...))
		answers(w, x, args)
		types.Identical(x, y)
		types.Text(x)
		w.Comparable(x)
		w.Nilable(x)
		if is := whole(x) + whole(y); is != was || whole(of(0, room...)) != wasArgs {
			t.Fatalf("P8.10: the types became\n%s\nwere\n%s", is, was)
		}
		n := copiedNamed(with("X", x, y))
		l := append(make([]api.Named, 0, 9), n, copiedNamed(with("T", y)), copiedNamed(with("U", number(), x)))
		var wasNamed []string
		for _, n := range l[:9] {
			wasNamed = append(wasNamed, wholeNamed(n))
		}
		types.New(l)
		for i, n := range l[:9] {
			if wholeNamed(n) != wasNamed[i] {
				t.Fatalf("P8.10: the declared type became\n%s\nwas\n%s", wholeNamed(n), wasNamed[i])
			}
		}
	}
}

// Whoever asks by Each may change what is asked about, and the type itself: the questions stay.
func TestEachToldIsMine(t *testing.T) {
	list := of(api.TypeTuple, number())
	p := param("P", 0, of(api.TypeUnion, list, list, of(api.TypeSlice, text()), list))
	want := []string{dump(list), dump(list), dump(of(api.TypeSlice, text())), dump(list)}
	var got []string
	world(t, nil).Each(p, func(x api.Type) bool {
		got = append(got, dump(x))
		spoil(x)
		return true
	})
	if !slices.Equal(got, want) {
		t.Errorf("P8.10: Each asked of %q, want %q", got, want)
	}
}

// Two worlds have nothing in common; one that is made anew in the place of another, neither.
func TestWorldsApart(t *testing.T) {
	w, v := world(t, sample()), world(t, sample())
	*w = *world(t, names("T", number()))
	same(t, "rule 7: Under", w.Under(declared("T")), number())
	same(t, "rule 7: Under", v.Under(declared("A")), text())
	if _, ok := w.Named("A"); ok {
		t.Error("rule 7: A is in a world that was made without it")
	}
}
