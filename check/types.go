package check

import (
	"slices"

	"recast/api"
	"recast/scope"
	"recast/types"
)

// dots is the sign of any number of parameters or arguments.
const dots = "..."

// isType tells whether a type stands somewhere, where an expression could as well.
func (c *checker) isType(n api.Node) bool {
	switch n.Kind {
	case api.NodePointer, api.NodeSlice, api.NodeChan, api.NodeFuncType, api.NodeStruct, api.NodeInterface:
		return true
	case api.NodeParen:
		return c.isType(n.Kids[0])
	case api.NodeUnary:
		return n.Text == "*" && c.isType(n.Kids[0])
	}
	m, found := c.meant(n)
	return found && (m.is(api.ObjType, api.ObjTParam) || m.isOfUniverse(api.ObjType))
}

// typeOf is the type that stands somewhere.
func (c *checker) typeOf(n api.Node) api.Type {
	must(c.isType(n), "no type stands where one should")
	switch n.Kind {
	case api.NodeParen:
		return c.typeOf(n.Kids[0])
	case api.NodePointer, api.NodeUnary:
		return types.Make(api.TypePointer, c.typeOf(n.Kids[0]))
	case api.NodeSlice:
		return types.Make(api.TypeSlice, c.typeOf(n.Kids[0]))
	case api.NodeChan:
		return types.Make(api.TypeChan, c.typeOf(n.Kids[0]))
	case api.NodeFuncType:
		return signature(c.typesOf(n.Kids[0]), c.typesOf(n.Kids[1]), n.Text == dots)
	case api.NodeStruct, api.NodeInterface:
		must(len(n.Kids) == 0, "a struct or an interface stands elsewhere than as what a name is")
		return types.Make(emptyKind(n))
	}
	m, _ := c.meant(n)
	switch {
	case m.is(api.ObjType):
		return types.Name(c.typeName(m.number))
	case m.is(api.ObjTParam):
		return c.objects[m.number].Type
	}
	return ofUniverseType(m.name)
}

// emptyKind is the kind of type that a Struct or Interface without anything in it is.
func emptyKind(n api.Node) int {
	if n.Kind == api.NodeStruct {
		return api.TypeStruct
	}
	return api.TypeInterface
}

// ofUniverseType is the universe's type of a name.
func ofUniverseType(name string) api.Type {
	switch name {
	case "int":
		return types.Make(api.TypeInt)
	case "string":
		return types.Make(api.TypeString)
	case "bool":
		return types.Make(api.TypeBool)
	}
	return types.Make(api.TypeInterface)
}

// typesOf is the types that a list has.
func (c *checker) typesOf(list api.Node) []api.Type {
	var out []api.Type
	for _, n := range list.Kids {
		out = append(out, c.typeOf(n))
	}
	return out
}

// signature is the type of functions that take and leave these; many: the last one is any number of parameters.
func signature(params, results []api.Type, many bool) api.Type {
	if many {
		last := len(params) - 1
		params = append(slices.Clone(params[:last]), types.Make(api.TypeSlice, params[last]))
	}
	sig := types.Make(api.TypeFunc, slices.Concat(params, results)...)
	sig.N, sig.Flag = len(params), many
	return sig
}

// constraint is what a type parameter may be.
func (c *checker) constraint(n api.Node) api.Type {
	if n.Kind == api.NodeUnion {
		return c.union(n.Kids...)
	}
	if m, found := c.meant(bare(n)); found && m.isOfUniverse(scope.Universe("comparable")) {
		return api.Type{Kind: api.TypeUnion, N: anyComparable}
	}
	if u := c.under(c.typeOf(n)); u.Kind == api.TypeInterface {
		return u
	}
	return c.union(n)
}

// anyComparable is the N of a union that stands for all types that may be compared.
const anyComparable = 1

// union is the constraint that lists types.
func (c *checker) union(list ...api.Node) api.Type {
	u := api.Type{Kind: api.TypeUnion}
	for _, n := range list {
		t := c.typeOf(n)
		must(isOf(t, api.TypeInt, api.TypeString, api.TypeBool), "a union has something else than int, string, bool")
		must(!slices.ContainsFunc(u.Kids, func(x api.Type) bool { return x.Kind == t.Kind }), "a union has one type twice")
		u.Kids = append(u.Kids, t)
	}
	return u
}

// isOf tells whether a type is of one of these kinds.
func isOf(t api.Type, kinds ...int) bool { return slices.Contains(kinds, t.Kind) }

// untyped tells whether a type is that of a constant without one.
func untyped(t api.Type) bool {
	return isOf(t, api.TypeConstInt, api.TypeConstStr, api.TypeConstBool)
}

// under is what a type is underneath; of a constant without a type what its default is. It is for looking alone:
// what a declared type is underneath is made once.
func (c *checker) under(t api.Type) api.Type {
	switch {
	case untyped(t):
		return types.Default(t)
	case t.Kind != api.TypeNamed:
		return t
	}
	u, found := c.unders[t.Name]
	if !found {
		u = c.Under(t)
		c.unders[t.Name] = u
	}
	return u
}
