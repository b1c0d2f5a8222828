package uses

import (
	"slices"

	"recast/api"
	"recast/check"
	"recast/methods"
	"recast/types"
)

// part is a name in a declared type, which is told by its object's number.
type part struct {
	owner int
	name  string
}

// known is what checking told of a configuration, made ready to be asked. Declared types are told by the numbers of
// their objects.
type known struct {
	api.Info
	*types.World
	declared []api.Named      // all declared types, by rising names
	numbers  map[string]int   // of declared types, by their names
	origins  map[int]int      // of those that are declared as another one, this one
	faces    map[int]api.Type // what those are underneath that are interfaces
	embeds   map[int][]int    // the interfaces that an Interface embeds, in order
	parts    map[part]int     // fields and methods, where they are declared
}

// newKnown makes ready what was told. It keeps it.
func newKnown(r check.Result) *known {
	k := &known{
		Info: r.Info, declared: r.Named, numbers: map[string]int{}, origins: map[int]int{},
		faces: map[int]api.Type{}, embeds: map[int][]int{}, parts: map[part]int{},
	}
	k.World, _ = types.New(r.Named)
	k.readObjects()
	k.readNamed()
	k.readUses()
	return k
}

// object is the one of a number; false, if there is none.
func (k *known) object(number int) (api.Object, bool) {
	if number < 0 || number >= len(k.Objects) {
		return api.Object{}, false
	}
	return k.Objects[number], true
}

// readObjects notes the declared types with their fields and their interfaces' methods, which stand right behind them.
func (k *known) readObjects() {
	owner := 0
	for number, o := range k.Objects {
		switch o.Kind {
		case api.ObjType:
			owner = number
			k.numbers[o.Pkg+"."+o.Name] = number
		case api.ObjField, api.ObjIMethod:
			k.parts[part{owner, o.Name}] = number
		}
	}
}

// readNamed notes what declared types were declared as.
func (k *known) readNamed() {
	for _, n := range k.declared {
		number := k.numbers[n.Name]
		if n.Under.Kind == api.TypeNamed {
			k.origins[number] = k.numbers[n.Under.Name]
		}
		if u := k.Under(n.Under); u.Kind == api.TypeInterface {
			k.faces[number] = u
		}
	}
}

// readUses notes whose the methods are that stand by themselves, and what Interfaces embed.
func (k *known) readUses() {
	last := 0     // the object that was used last
	declared := 0 // the one that was declared last, but an interface's method
	inSig := 0    // how many uses of declared types that one's Sig still has
	for _, u := range k.Uses {
		o, found := k.object(u.Obj)
		if !found || o.Kind == api.ObjPackage {
			continue
		}
		switch declares := o.Path == u.Path && o.At == u.At; {
		case declares && o.Kind == api.ObjIMethod:
			inSig = namesIn(o.Type)
		case declares:
			if o.Kind == api.ObjMethod { // its receiver's type stands right ahead of it
				k.parts[part{last, o.Name}] = u.Obj
			}
			declared, inSig = u.Obj, 0
		case inSig > 0:
			inSig--
		case k.isFace(declared) && k.isFace(u.Obj):
			k.embeds[declared] = append(k.embeds[declared], u.Obj)
		}
		last = u.Obj
	}
}

// isFace tells whether an object is a declared type that is an interface underneath.
func (k *known) isFace(number int) bool {
	_, found := k.faces[number]
	return found
}

// namesIn is how many declared types' names stand in a type.
func namesIn(t api.Type) int {
	n := 0
	if t.Kind == api.TypeNamed {
		n = 1
	}
	for _, kid := range t.Kids {
		n += namesIn(kid)
	}
	return n
}

// member is the number of the field or method that a name finds in a declared type.
func (k *known) member(owner, name string) (int, bool) {
	f, found := methods.Lookup(k.World, types.Name(owner), name)
	if !found {
		return 0, false
	}
	return k.standsIn(k.numbers[f.Owner], name)
}

// standsIn is the number of a declared type's own field or method. Where that type does not declare it itself, the
// one does that it is declared as, or one that it embeds. (No way there is longer than there are objects.)
func (k *known) standsIn(number int, name string) (int, bool) {
	for range k.Objects {
		if of, found := k.parts[part{number, name}]; found {
			return of, true
		}
		next, found := k.behind(number, name)
		if !found {
			break
		}
		number = next
	}
	return 0, false
}

// behind is the declared type that has a name ahead of another one, which does not declare it itself.
func (k *known) behind(number int, name string) (int, bool) {
	if origin, found := k.origins[number]; found {
		return origin, true
	}
	for _, of := range k.embeds[number] {
		if _, has := slices.BinarySearch(k.faces[of].Names, name); has {
			return of, true
		}
	}
	return 0, false
}
