package methods_test

import (
	"fmt"
	"math/rand/v2"
	"slices"
	"testing"

	"recast/api"
	"recast/methods"
	"recast/types"
)

// The answers are held here against those of a second reading of the chapter, of worlds by chance: it writes down
// all ways through embedded fields ahead of asking for any name.

// way is the embedded fields that lead to a type.
type way struct {
	path []int
	of   api.Type
}

// reader is the second reading of a world.
type reader struct {
	named []api.Named
}

// find is the declared type of a name.
func (r reader) find(t api.Type) (api.Named, bool) {
	i := slices.IndexFunc(r.named, func(n api.Named) bool { return t.Kind == api.TypeNamed && n.Name == t.Name })
	if i < 0 {
		return api.Named{}, false
	}
	return r.named[i], true
}

func (r reader) under(t api.Type) api.Type {
	if n, ok := r.find(t); ok {
		return r.under(n.Under)
	}
	return t
}

// ways is all ways from a type on.
func (r reader) ways(w way) []way {
	out := []way{w}
	u := r.under(w.of)
	for i, k := range u.Kids {
		if u.Kind == api.TypeStruct && i < len(u.Marks) && u.Marks[i] {
			out = append(out, r.ways(way{append(slices.Clone(w.path), i), k})...)
		}
	}
	return out
}

// taken is the ways to types that are looked at: the shorter ahead of the longer, then those with lesser numbers
// first, without those to or through a declared type to which one leads already.
func (r reader) taken(t api.Type) []way {
	all := r.ways(way{of: t})
	slices.SortStableFunc(all, func(a, b way) int {
		if len(a.path) != len(b.path) {
			return len(a.path) - len(b.path)
		}
		return slices.Compare(a.path, b.path)
	})
	var out []way
	var dropped [][]int
	for _, w := range all {
		through := slices.ContainsFunc(dropped, func(d []int) bool { return len(d) <= len(w.path) && slices.Equal(d, w.path[:len(d)]) })
		again := w.of.Kind == api.TypeNamed && slices.ContainsFunc(out, func(o way) bool { return o.of.Kind == api.TypeNamed && o.of.Name == w.of.Name })
		if through || again {
			dropped = append(dropped, w.path)
			continue
		}
		out = append(out, w)
	}
	return out
}

// stand is what stands under a name in the type at the end of a way.
func (r reader) stand(w way, name string) []methods.Found {
	var out []methods.Found
	n, ok := r.find(w.of)
	for _, m := range n.Methods {
		if ok && m.Name == name {
			out = append(out, methods.Found{Kind: api.ObjMethod, Owner: n.Name, Type: m.Sig, Path: w.path, Ptr: m.Ptr})
		}
	}
	u := r.under(w.of)
	constraint := u
	if u.Kind == api.TypeParam && len(u.Kids) > 0 {
		constraint = r.under(u.Kids[0])
	}
	for i, x := range constraint.Names {
		if constraint.Kind == api.TypeInterface && x == name && i < len(constraint.Kids) {
			out = append(out, methods.Found{Kind: api.ObjIMethod, Owner: n.Name, Type: constraint.Kids[i], Path: w.path})
		}
	}
	for i, x := range u.Names {
		if u.Kind == api.TypeStruct && x == name && i < len(u.Kids) {
			out = append(out, methods.Found{Kind: api.ObjField, Owner: n.Name, Type: u.Kids[i], Path: append(slices.Clone(w.path), i)})
		}
	}
	return out
}

// points tells what a type points to, and whether nothing is to be found in that through the pointer.
func (r reader) points(t api.Type) (target api.Type, pointer, blind bool) {
	u := r.under(t)
	if u.Kind != api.TypePointer || len(u.Kids) == 0 {
		return t, u.Kind == api.TypePointer, false
	}
	kind := r.under(u.Kids[0]).Kind
	return u.Kids[0], true, kind == api.TypePointer || kind == api.TypeInterface
}

func (r reader) lookup(t api.Type, name string) (methods.Found, bool) {
	target, pointer, blind := r.points(t)
	deref := pointer && !blind && len(r.under(t).Kids) > 0
	if !deref {
		target = t
	}
	var least []methods.Found
	depth := -1
	for _, w := range r.taken(target) {
		if found := r.stand(w, name); len(found) > 0 && (depth < 0 || depth == len(w.path)) {
			least, depth = append(least, found...), len(w.path)
		}
	}
	if len(least) != 1 {
		return methods.Found{}, false
	}
	least[0].Deref = deref
	return least[0], true
}

func (r reader) set(t api.Type) []api.Method {
	_, pointer, blind := r.points(t)
	names := members()
	slices.Sort(names)
	var out []api.Method
	for _, name := range slices.Compact(names) {
		f, ok := r.lookup(t, name)
		if !blind && ok && (f.Kind == api.ObjMethod || f.Kind == api.ObjIMethod) && (pointer || !f.Ptr) {
			out = append(out, api.Method{Name: name, Ptr: f.Ptr, Sig: f.Type})
		}
	}
	return out
}

func (r reader) implements(t, i api.Type) bool {
	u := r.under(i)
	for k, name := range u.Names {
		has := k >= len(u.Kids)
		for _, m := range r.set(t) {
			has = has || m.Name == name && types.Identical(m.Sig, u.Kids[k])
		}
		if !has {
			return false
		}
	}
	return u.Kind == api.TypeInterface
}

// kindOf sorts types by what the rules of giving tell apart.
func kindOf(t api.Type) string {
	switch t.Kind {
	case api.TypeConstInt, api.TypeConstStr, api.TypeConstBool:
		return "loose"
	case api.TypeNil:
		return "nil"
	case api.TypeTuple:
		return "tuple"
	case api.TypeParam:
		return "param"
	case api.TypeNamed, api.TypeInt, api.TypeString, api.TypeBool:
		return "named"
	}
	return "other"
}

func (r reader) fits(c api.Const, t api.Type) bool {
	if c.Kind == api.TypeInt && (len(c.Num.Mag) > 2 || len(c.Num.Mag) == 2 && c.Num.Mag[1] >= 1<<31) {
		return false
	}
	return c.Kind == t.Kind && 1 <= t.Kind && t.Kind <= 3
}

func (r reader) assignable(w *types.World, v, t api.Type, c *api.Const) bool {
	kv, kt := kindOf(v), kindOf(t)
	under := types.Identical(r.under(v), r.under(t))
	switch kv {
	case "tuple":
		return false
	case "nil":
		return w.Nilable(t)
	case "loose":
		if c == nil && v.Kind == api.TypeConstBool {
			c = &api.Const{Kind: api.TypeBool, Bool: true}
		}
		if c == nil {
			return false
		}
		if kt == "param" {
			return w.Each(t, func(x api.Type) bool { return r.fits(*c, x) })
		}
		return r.fits(*c, r.under(t)) || r.implements(types.Default(v), t) && r.fits(*c, types.Default(v))
	}
	if types.Identical(v, t) || r.implements(v, t) {
		return true
	}
	return under && (kv == "other" && kt == "named" || kv == "named" && kt == "other" || kv == "other" && kt == "other")
}

func (r reader) convertible(w *types.World, v, t api.Type, c *api.Const) bool {
	u := kindOf(r.under(v))
	return r.assignable(w, v, t, c) || types.Identical(r.under(v), r.under(t)) && (u == "named" || u == "other")
}

func (r reader) satisfies(w *types.World, t, by api.Type) bool {
	if by.Kind != api.TypeUnion {
		return r.implements(t, by)
	}
	if by.N == 1 {
		return w.Comparable(t)
	}
	var wanted []api.Type
	if t.Kind == api.TypeParam && len(t.Kids) > 0 && t.Kids[0].Kind == api.TypeUnion {
		wanted = t.Kids[0].Kids
	}
	left := slices.DeleteFunc(slices.Clone(wanted), func(x api.Type) bool { return oneOf(by.Kids, x) })
	return oneOf(by.Kids, t) || len(wanted) > 0 && len(left) == 0
}

func oneOf(l []api.Type, t api.Type) bool {
	return slices.ContainsFunc(l, func(x api.Type) bool { return types.Identical(x, t) })
}

// asked is types to ask about in a world.
func asked(random *rand.Rand, odd bool) []api.Type {
	out := []api.Type{number(), text(), truth(), looseInt(), looseBool(), nothing(), face(""), ints(), bools()}
	for _, name := range append(someNames(), "none") {
		out = append(out, declared(name), to(declared(name)))
	}
	for range 6 {
		out = append(out, some(random, 2, odd), to(some(random, 2, odd)), someFace(random))
	}
	return out
}

func TestLookupSecond(t *testing.T) {
	random := rand.New(rand.NewPCG(9, 1))
	seen := map[string]int{}
	for i := range 600 {
		odd := i%3 == 2
		named, w := someWorld(random, odd)
		r := reader{named}
		for _, x := range asked(random, odd) {
			for _, name := range append(members(), "z") {
				got, want := show(methods.Lookup(w, x, name)), show(r.lookup(x, name))
				if got != want {
					t.Fatalf("P9.1: Lookup(%s, %q) is %s, want %s, in\n%v", dump(x), name, got, want, named)
				}
				f, ok := r.lookup(x, name)
				seen[fmt.Sprint(ok, f.Kind, len(f.Path) > 1, f.Ptr, f.Deref)]++
			}
			if got, want := showSet(methods.Set(w, x)), showSet(r.set(x)); got != want {
				t.Fatalf("P9.2: Set(%s) is %s, want %s, in\n%v", dump(x), got, want, named)
			}
		}
	}
	if len(seen) != 17 {
		t.Errorf("chance gave %d cases: %v", len(seen), seen)
	}
}

func TestGivingSecond(t *testing.T) {
	random := rand.New(rand.NewPCG(9, 2))
	seen := map[string]int{}
	for i := range 80 {
		odd := i%3 == 2
		named, w := someWorld(random, odd)
		r := reader{named}
		l := asked(random, odd)
		for _, v := range l {
			for _, x := range l {
				c := pick(random, nil, five(), huge(), word(), right(), &api.Const{})
				for what, p := range map[string][2]bool{
					"P9.3: Implements":  {methods.Implements(w, v, x), r.implements(v, x)},
					"P9.5: Assignable":  {methods.Assignable(w, v, x, c), r.assignable(w, v, x, c)},
					"P9.6: Convertible": {methods.Convertible(w, v, x, c), r.convertible(w, v, x, c)},
					"P9.7: Satisfies":   {methods.Satisfies(w, v, x), r.satisfies(w, v, x)},
				} {
					seen[fmt.Sprint(what, p[1])]++
					if p[0] != p[1] {
						t.Fatalf("%s(%s, %s, %+v) is %v, in\n%v", what, dump(v), dump(x), c, p[0], named)
					}
				}
			}
		}
	}
	if len(seen) != 8 {
		t.Errorf("chance gave %v", seen)
	}
}

func TestWhatFollows(t *testing.T) {
	random := rand.New(rand.NewPCG(9, 3))
	for i := range 200 {
		named, w := someWorld(random, i%3 == 2)
		l := asked(random, i%3 == 2)
		for _, v := range l {
			x, c := pick(random, l...), pick(random, nil, five(), word(), right())
			if methods.Assignable(w, v, x, c) && !methods.Convertible(w, v, x, c) {
				t.Fatalf("P9.8: %s may be given to %s, but not become it, in\n%v", dump(v), dump(x), named)
			}
			set := methods.Set(w, v)
			whole := of(api.TypeInterface)
			for _, m := range set {
				whole.Names, whole.Kids = append(whole.Names, m.Name), append(whole.Kids, m.Sig)
			}
			less := of(api.TypeInterface)
			for k, m := range set {
				if random.IntN(2) == 0 {
					less.Names, less.Kids = append(less.Names, m.Name), append(less.Kids, whole.Kids[k])
				}
			}
			more := face("never", fn(0))
			more.Names, more.Kids = append(more.Names, whole.Names...), append(more.Kids, whole.Kids...)
			if !methods.Implements(w, v, whole) || !methods.Implements(w, v, less) || !methods.Implements(w, whole, less) || methods.Implements(w, v, more) {
				t.Fatalf("P9.8: %s does not implement just those of no more methods than its own, in\n%v", dump(v), named)
			}
			if kind := w.Under(v).Kind; kind != api.TypeInterface && kind != api.TypePointer && !methods.Implements(w, to(v), whole) {
				t.Fatalf("P9.8: a pointer to %s has not all its methods, in\n%v", dump(v), named)
			}
		}
	}
}
