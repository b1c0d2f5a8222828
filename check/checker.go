package check

import (
	"recast/api"
	"recast/types"
)

// wrong is what checking gives up with: why a module is not right.
type wrong string

// must gives up, unless something holds.
func must(holds bool, why string) {
	if !holds {
		panic(wrong(why))
	}
}

// spot is where checking has come to.
type spot struct {
	*source
	results []api.Type // of the function around
	tparams []int      // its type parameters, by their numbers as objects
}

// decl is a declaration of a package, where it stands.
type decl struct {
	*source
	node api.Node
}

// checker goes through a configuration, and notes what it finds out: of objects, which are told by their numbers, of
// expressions, and of the identifiers that binding did not tell of.
type checker struct {
	*types.World
	*bound
	spot
	typed  []api.Typed
	values map[int]api.Const // of constants
	begun  map[int]int       // how far the settling of an object has come
	decls  map[int]decl      // of the packages' objects

	world    []api.Named          // all declared types, by rising names
	named    map[string]int       // the numbers of these
	unders   map[string]api.Type  // what these are underneath
	parts    map[part]int         // fields, and methods but interfaces'
	methods  map[int][]api.Method // of declared types
	faces    map[int][]abstract   // of declared types that are interfaces
	embedded []api.Type           // in structs
	generics map[int][]int        // the type parameters of generic functions
	bounds   map[int]int          // the declared interfaces that are type parameters' constraints

	members map[asked]lookedUp   // what was asked of types so far
	gives   map[asked]assignable // whether values may be given to declared types
}

// newChecker is one that has not begun.
func newChecker(b *bound) *checker {
	c := &checker{
		bound: b, values: map[int]api.Const{}, begun: map[int]int{}, decls: map[int]decl{},
		named: map[string]int{}, unders: map[string]api.Type{}, parts: map[part]int{}, methods: map[int][]api.Method{},
		faces: map[int][]abstract{}, generics: map[int][]int{}, bounds: map[int]int{},
		members: map[asked]lookedUp{}, gives: map[asked]assignable{},
	}
	for _, s := range b.sources {
		for _, n := range s.tree.Kids {
			switch n.Kind {
			case api.NodeVar, api.NodeConst, api.NodeType:
				c.decls[s.declared[n.Kids[0].From]] = decl{s, n}
			case api.NodeFunc:
				c.decls[s.declared[n.Kids[1].From]] = decl{s, n}
			}
		}
	}
	return c
}

// within does a part of the work at a spot, and goes back to where it was.
func (c *checker) within(s spot, work func()) {
	outer := c.spot
	c.spot = s
	work()
	c.spot = outer
}

// eachDecl does something at the declaration of each of the packages' objects of a kind, by rising numbers.
func (c *checker) eachDecl(kind int, do func(number int, n api.Node)) {
	for number, o := range c.objects {
		if d, found := c.decls[number]; found && o.Kind == kind {
			c.within(spot{source: d.source}, func() { do(number, d.node) })
		}
	}
}

// How far the settling of an object has come.
const (
	running = 1
	ended   = 2
)

// once settles an object of a package at its declaration, if that is not done yet. What needs itself to be settled
// is wrong.
func (c *checker) once(number int, settle func(n api.Node)) {
	if c.begun[number] == ended {
		return
	}
	must(c.begun[number] != running, "something needs itself")
	c.begun[number] = running
	d := c.decls[number]
	c.within(spot{source: d.source}, func() { settle(d.node) })
	c.begun[number] = ended
}

// meant is what an identifier stands for, or a Selector behind a package; false of all other nodes.
func (c *checker) meant(n api.Node) (meaning, bool) { return c.meaning(c.source, n) }

// declare says of which type the object is that an identifier declares, if it declares one.
func (c *checker) declare(n api.Node, t api.Type) {
	if number, found := c.declares(n); found {
		c.objects[number].Type = t
	}
}

// bare is an expression or type without the Parens around it.
func bare(n api.Node) api.Node {
	for n.Kind == api.NodeParen {
		n = n.Kids[0]
	}
	return n
}
