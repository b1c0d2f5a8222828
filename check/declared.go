package check

import (
	"cmp"
	"slices"
	"strings"

	"recast/api"
	"recast/types"
)

// part is a name in a declared type, which is told by its number.
type part struct {
	owner int
	name  string
}

// abstract is a method of an interface.
type abstract struct {
	name   string
	number int // of the object that it is
	sig    api.Type
}

// declareTypes makes the world of all declared types.
func (c *checker) declareTypes() {
	c.eachDecl(api.ObjType, func(number int, n api.Node) {
		c.named[c.typeName(number)] = number
		c.objects[number].Type = types.Name(c.typeName(number))
	})
	c.eachDecl(api.ObjMethod, c.declareMethod)
	var err api.Errno
	c.world = c.allNamed()
	c.World, err = types.New(c.world)
	must(err == api.OK, "a declared type is underneath itself, or holds itself")
	for _, t := range c.embedded {
		must(!isOf(c.under(t), api.TypePointer, api.TypeInterface), "a struct embeds a pointer or an interface")
	}
	for number := range c.methods {
		c.checkMethods(number)
	}
}

// allNamed is all declared types, by rising names.
func (c *checker) allNamed() []api.Named {
	var out []api.Named
	c.eachDecl(api.ObjType, func(number int, n api.Node) {
		t := api.Named{Name: c.typeName(number), Under: c.declaredAs(number, n.Kids[1]), Methods: c.methods[number]}
		slices.SortFunc(t.Methods, func(a, b api.Method) int { return strings.Compare(a.Name, b.Name) })
		out = append(out, t)
	})
	slices.SortFunc(out, func(a, b api.Named) int { return strings.Compare(a.Name, b.Name) })
	return out
}

// declareMethod notes a method, and works out what it takes and leaves.
func (c *checker) declareMethod(number int, n api.Node) {
	recv, name := n.Kids[0], n.Kids[1]
	of := recv.Kids[1]
	pointer := of.Kind == api.NodePointer
	if pointer {
		of = of.Kids[0]
	}
	m, found := c.meant(of)
	must(found && m.is(api.ObjType), "a method is none of a declared type")
	c.declare(recv.Kids[0], c.typeOf(recv.Kids[1]))
	sig := c.head(n.Kids[3], n.Kids[4])
	c.objects[number].Type = sig
	c.enter(m.number, name.Text, number)
	c.methods[m.number] = append(c.methods[m.number], api.Method{Name: name.Text, Ptr: pointer, Sig: sig})
}

// enter notes a field or a method of a declared type, whose names are unlike.
func (c *checker) enter(owner int, name string, number int) {
	_, twice := c.parts[part{owner, name}]
	must(!twice, "a type has two fields or methods of one name")
	c.parts[part{owner, name}] = number
}

// checkMethods gives up, if a declared type may not have methods, or not those that it has.
func (c *checker) checkMethods(number int) {
	u := c.under(c.objects[number].Type)
	must(!isOf(u, api.TypePointer, api.TypeInterface), "a pointer or an interface has a method of its own")
	for _, m := range c.methods[number] {
		must(!slices.Contains(u.Names, m.Name), "a method has the name of a field")
	}
}

// declaredAs is what stands behind a declared type's name.
func (c *checker) declaredAs(number int, n api.Node) api.Type {
	switch n = bare(n); n.Kind {
	case api.NodeStruct:
		return c.structOf(number, n)
	case api.NodeInterface:
		t := api.Type{Kind: api.TypeInterface}
		for _, m := range c.face(number) {
			t.Names, t.Kids = append(t.Names, m.name), append(t.Kids, m.sig)
		}
		return t
	}
	return c.typeOf(n)
}

// structOf is the struct that a declared type is.
func (c *checker) structOf(number int, n api.Node) api.Type {
	t := api.Type{Kind: api.TypeStruct}
	for _, k := range n.Kids {
		name, typ := k.Kids[0], k.Kids[len(k.Kids)-1]
		if k.Kind == api.NodeEmbed {
			name = lastOf(typ)
		}
		of := c.typeOf(typ)
		if k.Kind == api.NodeEmbed {
			must(of.Kind == api.TypeNamed, "a struct embeds what is no declared type")
			c.embedded = append(c.embedded, of)
		}
		c.enter(number, name.Text, c.declared[name.From])
		c.declare(name, of)
		t.Names, t.Marks, t.Kids = append(t.Names, name.Text), append(t.Marks, k.Kind == api.NodeEmbed), append(t.Kids, of)
	}
	return t
}

// lastOf is the Ident by which what is embedded is named.
func lastOf(n api.Node) api.Node {
	if n.Kind == api.NodeSelector {
		return n.Kids[1]
	}
	return n
}

// face is the methods of a declared type that is an interface, by rising names.
func (c *checker) face(number int) []abstract {
	c.once(number, func(n api.Node) { c.faces[number] = c.faceOf(n.Kids[1]) })
	return c.faces[number]
}

// faceOf is the methods of a type that must be an interface.
func (c *checker) faceOf(n api.Node) []abstract {
	n = bare(n)
	if n.Kind == api.NodeInterface {
		return c.interfaceOf(n)
	}
	m, found := c.meant(n)
	if found && m.is(api.ObjType) {
		return c.face(m.number)
	}
	must(isOf(c.typeOf(n), api.TypeInterface), "an interface embeds what is none")
	return nil
}

// interfaceOf is the methods of an Interface: its own ones, and those of what it embeds.
func (c *checker) interfaceOf(n api.Node) []abstract {
	var out []abstract
	stands := map[string]int{}
	for _, k := range n.Kids {
		if k.Kind == api.NodeMethod {
			name, sig := k.Kids[0], signature(c.typesOf(k.Kids[1]), c.typesOf(k.Kids[2]), false)
			_, twice := stands[name.Text]
			must(!twice, "an interface has two methods of one name")
			stands[name.Text] = len(out)
			c.declare(name, sig)
			out = append(out, abstract{name.Text, c.declared[name.From], sig})
		}
	}
	for _, k := range n.Kids {
		if k.Kind == api.NodeEmbed {
			for _, m := range c.faceOf(k.Kids[0]) {
				i, twice := stands[m.name]
				if twice {
					must(types.Identical(out[i].sig, m.sig), "an interface has two unlike methods of one name")
					continue
				}
				stands[m.name] = len(out)
				out = append(out, m)
			}
		}
	}
	slices.SortFunc(out, func(a, b abstract) int { return cmp.Compare(a.name, b.name) })
	return out
}

// originOf is the declared type by whose name another one is declared; false of others.
func (c *checker) originOf(number int) (int, bool) {
	d := c.decls[number]
	m, found := c.meaning(d.source, bare(d.node.Kids[1]))
	return m.number, found && m.is(api.ObjType)
}

// partOf is the number of the field or method of a name in a declared type, or in the one that this is declared as.
func (c *checker) partOf(number int, name string) int {
	for {
		if of, found := c.parts[part{number, name}]; found {
			return of
		}
		origin, found := c.originOf(number)
		must(found, "a field or method stands nowhere")
		number = origin
	}
}

// abstractOf is the number of a method of a declared interface.
func (c *checker) abstractOf(number int, name string) int {
	all := c.face(number)
	i, found := slices.BinarySearchFunc(all, name, func(m abstract, name string) int { return cmp.Compare(m.name, name) })
	must(found, "a method stands nowhere")
	return all[i].number
}
