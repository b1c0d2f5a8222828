package methods

import (
	"iter"
	"slices"

	"recast/api"
	"recast/types"
)

// place is a type that is looked at: the first one, or that of an embedded field.
type place struct {
	of     api.Type
	holder *place // in whose struct the embedded field stands; nil of the first one
	number int    // of that field
}

// path is the numbers of the embedded fields that lead to a place, and more behind them.
func (p *place) path(more ...int) []int {
	var out []int
	for ; p.holder != nil; p = p.holder {
		out = append(out, p.number)
	}
	slices.Reverse(out)
	return append(out, more...)
}

// part is a field of a struct, or a method of an interface: what has no name stands under none, and is none.
type part struct {
	name   string
	number int
	of     api.Type
}

// parts is what a struct or an interface has.
func parts(t api.Type) []part {
	var out []part
	for i := range min(len(t.Names), len(t.Kids)) {
		out = append(out, part{t.Names[i], i, t.Kids[i]})
	}
	return out
}

// member is a field or a method where it stands. Its Path is worked out when it is told: most never are, and the
// paths of all of them would be far longer than the types.
type member struct {
	Found
	name   string
	number int // of a field
	at     *place
}

// told is a member as it is answered, in memory of its own.
func (m member) told(deref bool) Found {
	f := m.Found
	f.Type, f.Deref = copied(m.Type), deref
	if m.Kind == api.ObjField {
		f.Path = m.at.path(m.number)
	} else {
		f.Path = m.at.path()
	}
	return f
}

// search is a way down through types, with those that were met.
type search struct {
	*types.World
	met map[string]struct{}
}

// levels goes down from a type, and tells what stands at each depth.
func levels(w *types.World, t api.Type) iter.Seq[[]member] {
	return func(yield func([]member) bool) {
		s := search{w, map[string]struct{}{}}
		for level := []*place{{of: t}}; len(level) > 0; {
			var found []member
			var next []*place
			for _, p := range level {
				members, embedded := s.look(p)
				found = append(found, members...)
				next = append(next, embedded...)
			}
			if !yield(found) {
				return
			}
			level = next
		}
	}
}

// look is what stands in a type itself, and the places of the types that it embeds. A declared type has nothing
// when it is met again.
func (s search) look(p *place) (members []member, embedded []*place) {
	owner := ""
	if p.of.Kind == api.TypeNamed {
		owner = p.of.Name
		if _, again := s.met[owner]; again {
			return nil, nil
		}
		s.met[owner] = struct{}{}
		members = s.declared(p)
	}
	u := under(s.World, p.of)
	for _, x := range parts(s.face(u)) {
		f := Found{Kind: api.ObjIMethod, Owner: owner, Type: x.of}
		members = append(members, member{Found: f, name: x.name, at: p})
	}
	if u.Kind != api.TypeStruct {
		return members, nil
	}
	for _, x := range parts(u) {
		f := Found{Kind: api.ObjField, Owner: owner, Type: x.of}
		members = append(members, member{Found: f, name: x.name, number: x.number, at: p})
	}
	for i := range min(len(u.Marks), len(u.Kids)) {
		if u.Marks[i] {
			embedded = append(embedded, &place{of: u.Kids[i], holder: p, number: i})
		}
	}
	return members, embedded
}

// declared is a declared type's own methods.
func (s search) declared(p *place) []member {
	n, _ := s.Named(p.of.Name)
	var out []member
	for _, m := range n.Methods {
		f := Found{Kind: api.ObjMethod, Owner: n.Name, Type: m.Sig, Ptr: m.Ptr}
		out = append(out, member{Found: f, name: m.Name, at: p})
	}
	return out
}

// face is the interface whose methods a type has that is so underneath: itself, or a type parameter's constraint;
// one without methods, if there is none.
func (s search) face(u api.Type) api.Type {
	if u.Kind == api.TypeParam && len(u.Kids) > 0 {
		u = under(s.World, u.Kids[0])
	}
	if u.Kind != api.TypeInterface {
		return types.Make(api.TypeInterface)
	}
	return u
}

// under is what a type is underneath. (One that is not declared is not copied: types are looked at from the
// outside inwards, and a copy at each step would cost the square of the depth.)
func under(w *types.World, t api.Type) api.Type {
	if t.Kind != api.TypeNamed {
		return t
	}
	return w.Under(t)
}

// copied is a type in memory of its own.
func copied(t api.Type) api.Type { return types.Subst(t, nil) }
