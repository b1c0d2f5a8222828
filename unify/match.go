package unify

import (
	"slices"

	"recast/api"
	"recast/types"
)

// deepest is how many steps of a walk stand within one another at most: more than types of a source ever need, and
// far fewer than there is room for.
const deepest = 1000

// Match finds what type parameters stand for.
func Match(param, arg api.Type, args []api.Type) bool {
	// args may be the memory in which a part of param stands: what is written there does not change the question.
	own := copied(param)
	return matches(&own, arg, args)
}

// matches is Match of a param that has no memory in common with what is known.
func matches(param *api.Type, arg api.Type, known []api.Type) bool {
	own := copied(arg)
	w := walk{known: known}
	todo := []pair{{param, &own}}
	for len(todo) > 0 {
		next := todo[len(todo)-1]
		todo = todo[:len(todo)-1]
		w.late = nil
		if !w.match(next, 0) {
			return false
		}
		slices.Reverse(w.late)
		todo = append(todo, w.late...)
	}
	return true
}

// pair is two types that stand at the same place of two others. Those of args have memory of their own.
type pair struct {
	param *api.Type
	arg   *api.Type
}

// walk is a way through two types, with what is known of the type arguments.
type walk struct {
	known []api.Type
	late  []pair // what is put off until the calls within one another have ended, in its order
}

// match tells whether a pair matches as far as it goes through it; what it does not is put off. As what becomes
// known first is what counts, nothing goes ahead of what was put off.
func (w *walk) match(p pair, deep int) bool {
	if silent(p.arg) {
		return false
	}
	if place := argument(p.param, w.known); place != nil {
		return settle(place, p.arg)
	}
	if !alike(p.param, p.arg) {
		return false
	}
	for i := range p.param.Kids {
		kid := pair{&p.param.Kids[i], &p.arg.Kids[i]}
		if deep == deepest || len(w.late) > 0 {
			w.late = append(w.late, kid)
		} else if !w.match(kid, deep+1) {
			return false
		}
	}
	return true
}

// settle makes a type what a type argument is, if it is not known, and tells whether it is that.
func settle(place, t *api.Type) bool {
	if unknown(*place) {
		*place = *t
		return true
	}
	return types.Identical(*place, *t)
}

// argument is where the type argument stands that a type stands for; nil, if it is no type parameter that has one.
func argument(t *api.Type, known []api.Type) *api.Type {
	if t.Kind != api.TypeParam || t.N < 0 || t.N >= len(known) {
		return nil
	}
	return &known[t.N]
}

// unknown tells whether a type argument is not known yet.
func unknown(t api.Type) bool { return t.Kind == 0 }

// alike compares types without what their kids are.
func alike(a, b *api.Type) bool {
	return a.Kind == b.Kind && a.Name == b.Name && a.N == b.N && a.Flag == b.Flag &&
		slices.Equal(a.Names, b.Names) && slices.Equal(a.Marks, b.Marks) && len(a.Kids) == len(b.Kids)
}

// isOf tells whether a type is of one of these kinds.
func isOf(t *api.Type, kinds ...int) bool { return slices.Contains(kinds, t.Kind) }

// untyped tells whether a type is that of a constant without one.
func untyped(t *api.Type) bool {
	return isOf(t, api.TypeConstInt, api.TypeConstStr, api.TypeConstBool)
}

// silent tells whether a type is one that says nothing of a type argument, as that can't be it.
func silent(t *api.Type) bool { return untyped(t) || isOf(t, api.TypeNil, api.TypeTuple) }

// copied is a type in memory of its own, each list within it too.
func copied(t api.Type) api.Type { return types.Subst(t, nil) }
