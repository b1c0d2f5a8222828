package scope

import (
	"cmp"
	"slices"

	"recast/api"
)

// mainName is the package and the function that a module begins to run in.
const mainName = "main"

// blankName is the identifier that never is an object.
const blankName = "_"

// place is where binding has come to.
type place struct {
	*scope
	pkg       string
	path      string
	level     int
	breaks    bool // a break means something there
	continues bool // a continue does
}

// object is one, with what is known of its uses so far.
type object struct {
	api.Object
	idle bool // it must be used, and was not yet
}

// binder goes through the files of packages, and notes objects (by the numbers in which they come) and uses.
type binder struct {
	place
	objects  []object
	uses     []api.Use
	packages map[string]table
	begins   bool // there is a function to begin with
}

// within does a part of the work in a scope of its own, and goes back to where it was.
func (b *binder) within(work func()) {
	outer := b.place
	b.scope = &scope{table{}, outer.scope}
	work()
	b.place = outer
}

// object notes an object, and is its number.
func (b *binder) object(kind int, name string, at int) int {
	o := object{Object: api.Object{Kind: kind, Name: name, Pkg: b.pkg, Path: b.path, At: at, Level: b.level}}
	o.idle = kind == api.ObjPackage || kind == api.ObjVar && b.level > 0
	b.objects = append(b.objects, o)
	return len(b.objects) - 1
}

// use notes what an identifier stands for.
func (b *binder) use(n api.Node, number int) {
	b.uses = append(b.uses, api.Use{Path: b.path, At: n.From, Obj: number})
}

// nameOf is the name of an identifier where a blank one may not stand.
func nameOf(n api.Node) string {
	if n.Text == blankName {
		panic(wrong("a blank stands where it may not"))
	}
	return n.Text
}

// declare notes the object that an identifier declares, which is its first use; it is in no scope by that.
func (b *binder) declare(kind int, n api.Node) int {
	number := b.object(kind, nameOf(n), n.From)
	b.use(n, number)
	return number
}

// enter declares an object in the innermost scope.
func (b *binder) enter(kind int, n api.Node) { b.add(n.Text, b.declare(kind, n)) }

// enterAll declares those identifiers that are neither blank nor wanting.
func (b *binder) enterAll(kind int, idents ...api.Node) {
	for _, n := range idents {
		if n.Kind == api.NodeIdent && n.Text != blankName {
			b.enter(kind, n)
		}
	}
}

// declareAll declares what a file has for its whole package.
func (b *binder) declareAll(f file) {
	b.goTo(f)
	for _, n := range f.decls() {
		switch n.Kind {
		case api.NodeVar:
			b.enter(api.ObjVar, n.Kids[0])
		case api.NodeConst:
			b.enter(api.ObjConst, n.Kids[0])
		case api.NodeType:
			b.enter(api.ObjType, n.Kids[0])
		case api.NodeFunc:
			b.declareFunc(n)
		}
	}
}

// declareFunc declares a function that is no method.
func (b *binder) declareFunc(n api.Node) {
	recv, name, tparams, params, results := n.Kids[0], n.Kids[1], n.Kids[2], n.Kids[3], n.Kids[4]
	if recv.Kind == api.NodeRecv {
		return
	}
	b.enter(api.ObjFunc, name)
	if b.pkg == mainName && name.Text == mainName && len(tparams.Kids)+len(params.Kids)+len(results.Kids) == 0 {
		b.begins = true
	}
}

// goTo goes to the outermost scope of a file's package.
func (b *binder) goTo(f file) {
	names := b.packages[f.pkg]
	if names == nil {
		names = table{}
		b.packages[f.pkg] = names
	}
	b.place = place{scope: &scope{names, nil}, pkg: f.pkg, path: f.path}
}

// bindFile binds what stands in a file, whose package's objects are known.
func (b *binder) bindFile(f file) {
	b.goTo(f)
	b.within(func() {
		for _, n := range f.tree.Kids {
			if n.Kind == api.NodeImport {
				b.importLine(n)
			}
		}
		for _, n := range f.decls() {
			b.decl(n)
		}
	})
}

// importLine puts an import into the file's scope.
func (b *binder) importLine(n api.Node) {
	if Universe(n.Text) != 0 || n.Text == mainName {
		panic(wrong("an import has a name that it may not have"))
	}
	if b.outer.has(n.Text) {
		panic(wrong("an import has the name of an object of its package"))
	}
	b.add(n.Text, b.object(api.ObjPackage, n.Text, n.From))
}

// finish gives up, if something is wanting in the files as a whole.
func (b *binder) finish() {
	if !b.begins {
		panic(wrong("there is no function to begin with"))
	}
	if slices.ContainsFunc(b.objects, func(o object) bool { return o.idle }) {
		panic(wrong("a variable or an import is not used"))
	}
}

// told is the objects and uses as they are answered: in the order of their places, by which objects are numbered.
func (b *binder) told() (objs []api.Object, uses []api.Use) {
	order := make([]int, len(b.objects))
	for i := range order {
		order[i] = i
	}
	slices.SortStableFunc(order, func(i, j int) int {
		x, y := b.objects[i], b.objects[j]
		return cmp.Or(cmp.Compare(x.Path, y.Path), cmp.Compare(x.At, y.At))
	})
	numbers := make([]int, len(order))
	for i, first := range order {
		numbers[first] = i
		objs = append(objs, b.objects[first].Object)
	}
	for _, u := range b.uses {
		if u.Obj != ofUniverse {
			u.Obj = numbers[u.Obj]
		}
		uses = append(uses, u)
	}
	slices.SortStableFunc(uses, func(x, y api.Use) int {
		return cmp.Or(cmp.Compare(x.Path, y.Path), cmp.Compare(x.At, y.At))
	})
	return objs, uses
}
