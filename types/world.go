package types

import (
	"slices"

	"recast/api"
)

// anyComparable is the N of a union that stands for all types that may be compared.
const anyComparable = 1

// World is declared types.
type World struct {
	table
}

// New is a world.
func New(named []api.Named) (*World, api.Errno) {
	w := &World{table: table{}}
	for _, n := range named {
		if !w.add(n) {
			return nil, api.ErrArg
		}
	}
	if w.circular() {
		return nil, api.ErrArg
	}
	if !w.closed() {
		return nil, api.ErrNone
	}
	return w, api.OK
}

// orNone is w, or a world of none in the place of a nil one.
func (w *World) orNone() *World {
	if w == nil {
		return &World{}
	}
	return w
}

// Named is a declared type.
func (w *World) Named(name string) (api.Named, bool) {
	n, found := w.orNone().find(name)
	return freshNamed(n), found
}

// Under is what a type is underneath.
func (w *World) Under(t api.Type) api.Type { return fresh(w.orNone().under(t)) }

// Comparable tells whether == may be asked.
func (w *World) Comparable(t api.Type) bool {
	w = w.orNone()
	met := map[string]struct{}{}
	return walk(func(x *api.Type) ([]*api.Type, bool) {
		if x.Kind != api.TypeNamed {
			return comparedBy(x)
		}
		// Each is looked at once: there may be more ways to one than could ever be gone, and by a constraint one
		// that leads back to it.
		if _, again := met[x.Name]; again {
			return nil, true
		}
		met[x.Name] = struct{}{}
		n, found := w.find(x.Name)
		return []*api.Type{&n.Under}, found
	}, &t)
}

// comparedBy is the types that must be comparable for t, no declared type, to be; false, if it is not whatever
// they are.
func comparedBy(t *api.Type) ([]*api.Type, bool) {
	switch t.Kind {
	case api.TypeInt, api.TypeString, api.TypeBool, api.TypeConstInt, api.TypeConstStr, api.TypeConstBool,
		api.TypePointer, api.TypeChan, api.TypeInterface:
		return nil, true
	case api.TypeStruct:
		return kids(t), true
	case api.TypeParam:
		u, found := unionOf(t)
		if !found || u.N == anyComparable {
			return nil, found
		}
		return kids(u), true
	}
	return nil, false
}

// Nilable tells whether it may be nil.
func (w *World) Nilable(t api.Type) bool {
	switch w.orNone().under(t).Kind {
	case api.TypePointer, api.TypeSlice, api.TypeChan, api.TypeFunc, api.TypeInterface:
		return true
	}
	return false
}

// Each tells whether f is true of all that t may be.
func (w *World) Each(t api.Type, f func(api.Type) bool) bool {
	if f == nil {
		return false
	}
	if t.Kind != api.TypeParam {
		return f(w.Under(t))
	}
	own := fresh(t)
	u, found := unionOf(&own)
	if !found || len(u.Kids) == 0 {
		return false
	}
	return !slices.ContainsFunc(u.Kids, func(x api.Type) bool { return !f(x) })
}

// unionOf is a type parameter's constraint, if that is a union.
func unionOf(t *api.Type) (*api.Type, bool) {
	if len(t.Kids) == 0 || t.Kids[0].Kind != api.TypeUnion {
		return nil, false
	}
	return &t.Kids[0], true
}
