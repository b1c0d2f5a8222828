package flow

import (
	"cmp"
	"slices"
	"strings"

	"recast/api"
	"recast/check"
	"recast/types"
)

// ofUniverse is the number of all that the universe has.
const ofUniverse = -1

// known is what checking told of a file.
type known struct {
	check.Result
	path string
}

// useAt is where in the list of uses the one at a place stands.
func (k known) useAt(path string, at int) (int, bool) {
	return slices.BinarySearchFunc(k.Info.Uses, at, func(u api.Use, at int) int {
		return cmp.Or(strings.Compare(u.Path, path), cmp.Compare(u.At, at))
	})
}

// stands is the number of what an Ident stands for.
func (k known) stands(n api.Node) (int, bool) {
	i, found := k.useAt(k.path, n.From)
	if !found || n.Kind != api.NodeIdent {
		return 0, false
	}
	return k.Info.Uses[i].Obj, true
}

// object is the one of a number; of no kind, if there is none.
func (k known) object(number int) api.Object {
	if number < 0 || number >= len(k.Info.Objects) {
		return api.Object{}
	}
	return k.Info.Objects[number]
}

// meant is the number of the object that an Ident, or the Ident behind the point of a Selector, stands for, if it is
// of one of the kinds.
func (k known) meant(n api.Node, kinds ...int) (int, bool) {
	if n.Kind == api.NodeSelector {
		n = kid(n, 1)
	}
	number, found := k.stands(n)
	return number, found && slices.Contains(kinds, k.object(number).Kind)
}

// variable is the number of the variable that an Ident stands for.
func (k known) variable(n api.Node) (int, bool) {
	number, found := k.meant(n, api.ObjVar, api.ObjParam)
	return number, found && n.Kind == api.NodeIdent
}

// typed is what was told of the type of an expression.
func (k known) typed(n api.Node) (api.Typed, bool) {
	i, found := slices.BinarySearchFunc(k.Info.Types, n, func(x api.Typed, n api.Node) int {
		return cmp.Or(strings.Compare(x.Path, k.path), cmp.Compare(x.From, n.From), cmp.Compare(n.To, x.To))
	})
	if !found {
		return api.Typed{}, false
	}
	return k.Info.Types[i], true
}

// isValue tells whether it is an expression that has a type, and so no type itself, no package, and no function that
// can but be called.
func (k known) isValue(n api.Node) bool {
	_, found := k.typed(n)
	return found
}

// kind is the kind that an expression's type has underneath; 0, if that type is not known.
func (k known) kind(n api.Node) int {
	x, _ := k.typed(n)
	t := types.Default(x.Type)
	for range k.Named { // no way through declared types is longer
		n, found := k.declared(t.Name)
		if t.Kind != api.TypeNamed || !found {
			break
		}
		t = n.Under
	}
	return t.Kind
}

// isOf tells whether an expression's type has one of the kinds underneath.
func (k known) isOf(n api.Node, kinds ...int) bool { return slices.Contains(kinds, k.kind(n)) }

// declared is the declared type of a name.
func (k known) declared(name string) (api.Named, bool) {
	i, found := slices.BinarySearchFunc(k.Named, name, func(n api.Named, name string) int {
		return strings.Compare(n.Name, name)
	})
	if !found {
		return api.Named{}, false
	}
	return k.Named[i], true
}

// takesPointer tells whether the method of a number has a receiver that is a pointer. (Right ahead of a method's name
// the receiver's type stands.)
func (k known) takesPointer(number int) bool {
	m := k.object(number)
	i, found := k.useAt(m.Path, m.At)
	if !found || i == 0 {
		return false
	}
	receiver := k.object(k.Info.Uses[i-1].Obj)
	n, _ := k.declared(receiver.Pkg + "." + receiver.Name)
	return slices.ContainsFunc(n.Methods, func(x api.Method) bool { return x.Name == m.Name && x.Ptr })
}

// isRecover tells whether it is a Call of the universe's recover.
func (k known) isRecover(n api.Node) bool {
	f := kid(n, 0)
	number, found := k.stands(f)
	return found && number == ofUniverse && n.Kind == api.NodeCall && f.Text == "recover"
}
