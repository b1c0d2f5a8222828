package check

import (
	"slices"

	"recast/api"
	"recast/module"
	"recast/scope"
)

// ofUniverse is the number of all that the universe has.
const ofUniverse = -1

// source is a file of the configuration, with what stands at its places.
type source struct {
	pkg      string
	path     string
	tree     api.Node
	stands   map[int]int // the numbers of what identifiers stand for
	declared map[int]int // the numbers of the objects that are declared there
}

// declares is the number of the object that an identifier declares; false, if it declares none.
func (s *source) declares(n api.Node) (int, bool) {
	number, found := s.declared[n.From]
	return number, found && n.Kind == api.NodeIdent
}

// bound is what binding told of a configuration.
type bound struct {
	objects []api.Object
	uses    []api.Use
	sources []*source
}

// newBound is what was told of the files of packages. It keeps the objects and uses.
func newBound(m *module.Module, packages []module.Package, objects []api.Object, uses []api.Use) *bound {
	b := &bound{objects: objects, uses: uses}
	byPath := map[string]*source{}
	for _, p := range packages {
		for _, path := range p.Files {
			n, _ := m.Tree(path)
			s := &source{p.Name, path, n, map[int]int{}, map[int]int{}}
			byPath[path] = s
			b.sources = append(b.sources, s)
		}
	}
	for number, o := range objects {
		byPath[o.Path].declared[o.At] = number
	}
	for _, u := range uses {
		byPath[u.Path].stands[u.At] = u.Obj
	}
	return b
}

// meaning is what an identifier stands for: an object of a number, or something of the universe.
type meaning struct {
	number int
	kind   int
	name   string
}

// is tells whether a meaning is an object of one of the kinds.
func (m meaning) is(kinds ...int) bool {
	return m.number != ofUniverse && slices.Contains(kinds, m.kind)
}

// isOfUniverse tells whether a meaning is what the universe has of a kind.
func (m meaning) isOfUniverse(kind int) bool {
	return m.number == ofUniverse && m.kind == kind
}

// meaning is what stands in a file as an Ident, or as a Selector behind a package; false of all other nodes.
func (b *bound) meaning(s *source, n api.Node) (meaning, bool) {
	name := n
	if n.Kind == api.NodeSelector {
		first, found := b.meaning(s, n.Kids[0])
		if !found || !first.is(api.ObjPackage) {
			return meaning{}, false
		}
		name = n.Kids[1]
	}
	number, found := s.stands[name.From]
	switch {
	case !found || name.Kind != api.NodeIdent:
		return meaning{}, false
	case number == ofUniverse:
		return meaning{number, scope.Universe(name.Text), name.Text}, true
	}
	return meaning{number, b.objects[number].Kind, name.Text}, true
}

// typeName is the name of the declared type of a number.
func (b *bound) typeName(number int) string {
	o := b.objects[number]
	return o.Pkg + "." + o.Name
}
