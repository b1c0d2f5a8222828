package types

import (
	"slices"

	"recast/api"
)

// walk hands over what it begins with, and behind each that it hands over all that this is to be followed by. It
// is false, and ends, at the first of which step is. (What is still to come is a list, no row of calls within one
// another, so that no type is too deep.)
func walk[T any](step func(x T) ([]T, bool), first ...T) bool {
	todo := slices.Clone(first)
	slices.Reverse(todo)
	for len(todo) > 0 {
		x := todo[len(todo)-1]
		todo = todo[:len(todo)-1]
		next, ok := step(x)
		if !ok {
			return false
		}
		for _, y := range slices.Backward(next) {
			todo = append(todo, y)
		}
	}
	return true
}

// kids is where the kids of a type stand.
func kids(t *api.Type) []*api.Type {
	out := make([]*api.Type, 0, len(t.Kids))
	for i := range t.Kids {
		out = append(out, &t.Kids[i])
	}
	return out
}

// fresh is t in new memory, each list within it of its own.
func fresh(t api.Type) api.Type {
	walk(func(x *api.Type) ([]*api.Type, bool) {
		x.Names, x.Marks, x.Kids = slices.Clone(x.Names), slices.Clone(x.Marks), slices.Clone(x.Kids)
		return kids(x), true
	}, &t)
	return t
}

// freshNamed is n in new memory, each list within it of its own.
func freshNamed(n api.Named) api.Named {
	n.Under, n.Methods = fresh(n.Under), slices.Clone(n.Methods)
	for i := range n.Methods {
		n.Methods[i].Sig = fresh(n.Methods[i].Sig)
	}
	return n
}
