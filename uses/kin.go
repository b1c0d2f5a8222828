package uses

import (
	"iter"
	"slices"
	"strings"

	"recast/api"
	"recast/methods"
	"recast/types"
)

// relation is that a declared type, or just a pointer to it, implements a declared interface.
type relation struct {
	of      string
	face    string
	pointer bool
}

// text is a relation as it is told.
func (r relation) text() string {
	if r.pointer {
		return "*" + r.of + " " + r.face
	}
	return r.of + " " + r.face
}

// relations is all that there are, but those of interfaces without methods.
func (k *known) relations() iter.Seq[relation] {
	return func(yield func(relation) bool) {
		asking := k.byFirst()
		for _, n := range k.declared {
			given := map[string]struct{}{}
			for _, r := range []relation{{of: n.Name}, {of: n.Name, pointer: true}} {
				for r.face = range asking.implemented(k.methodsOf(r)) {
					if _, already := given[r.face]; already {
						continue
					}
					given[r.face] = struct{}{}
					if !yield(r) {
						return
					}
				}
			}
		}
	}
}

// methodsOf is the methods of the type, or the pointer, that a relation is of.
func (k *known) methodsOf(r relation) []api.Method {
	t := types.Name(r.of)
	if r.pointer {
		t = types.Make(api.TypePointer, t)
	}
	return methods.Set(k.World, t)
}

// face is a declared interface that has methods.
type face struct {
	name string
	api.Type
}

// byFirst is the declared interfaces, in order, by the first of their methods' names: a type needs to be held against
// those alone whose first method it has.
type byFirst map[string][]face

// byFirst is the interfaces that are declared.
func (k *known) byFirst() byFirst {
	out := byFirst{}
	for _, n := range k.declared {
		if t, found := k.faces[k.numbers[n.Name]]; found && len(t.Names) > 0 {
			out[t.Names[0]] = append(out[t.Names[0]], face{n.Name, t})
		}
	}
	return out
}

// implemented is the names of the interfaces all of whose methods are in a set.
func (b byFirst) implemented(set []api.Method) iter.Seq[string] {
	return func(yield func(string) bool) {
		for _, m := range set {
			for _, f := range b[m.Name] {
				if f.isIn(set) && !yield(f.name) {
					return
				}
			}
		}
	}
}

// isIn tells whether a set of methods has all of an interface's.
func (f face) isIn(set []api.Method) bool {
	for i, name := range f.Names {
		at, found := slices.BinarySearchFunc(set, name, func(m api.Method, name string) int { return strings.Compare(m.Name, name) })
		if !found || !types.Identical(set[at].Sig, f.Kids[i]) {
			return false
		}
	}
	return true
}

// kin tells the pairs of objects that are named together.
func (k *known) kin(yield func(x, y int) bool) {
	for number, o := range k.Objects {
		of, found := standing(k.Uses, Place{o.Path, o.At})
		if found && o.Kind == api.ObjField && !yield(of, number) { // an embedded field's Ident stands for the type
			return
		}
	}
	member := k.remembered()
	for r := range k.relations() {
		for _, name := range k.faces[k.numbers[r.face]].Names {
			if !yield(member(r.of, name), member(r.face, name)) {
				return
			}
		}
	}
}

// remembered is member, of names that are found: it looks for each of them once.
func (k *known) remembered() func(owner, name string) int {
	found := map[part]int{}
	return func(owner, name string) int {
		p := part{k.numbers[owner], name}
		number, met := found[p]
		if !met {
			number, _ = k.member(owner, name)
			found[p] = number
		}
		return number
	}
}
