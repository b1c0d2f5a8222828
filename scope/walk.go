package scope

import "recast/api"

// decl binds a declaration of a package, whose own identifier is declared, if it is no method's.
func (b *binder) decl(n api.Node) {
	if n.Kind != api.NodeFunc {
		b.walk(n.Kids[1:]...)
		return
	}
	if n.Kids[0].Kind == api.NodeRecv {
		b.declare(api.ObjMethod, n.Kids[1])
	}
	b.function(1, n.Kids[0], n.Kids[2], n.Kids[3], n.Kids[4], n.Kids[5])
}

// walk binds nodes, and all that is within them.
func (b *binder) walk(nodes ...api.Node) {
	for _, n := range nodes {
		if !b.name(n) && !b.member(n) && !b.stmt(n) && !b.part(n) {
			b.walk(n.Kids...)
		}
	}
}

// name binds an identifier that stands for something, or what has one that need not; false of other nodes.
func (b *binder) name(n api.Node) bool {
	switch n.Kind {
	case api.NodeIdent:
		b.read(b.stand(n))
	case api.NodeSelector:
		b.selector(n)
	case api.NodeKeyed:
		nameOf(n.Kids[0])
		b.walk(n.Kids[1])
	default:
		return false
	}
	return true
}

// lookUp is the number of what an identifier stands for, and whether that is a package.
func (b *binder) lookUp(n api.Node) (number int, isPackage bool) {
	number = b.find(nameOf(n))
	return number, number != ofUniverse && b.objects[number].Kind == api.ObjPackage
}

// stand notes what an identifier stands for, where it may be no package.
func (b *binder) stand(n api.Node) int {
	number, isPackage := b.lookUp(n)
	if isPackage {
		panic(wrong("a package stands elsewhere than first in a selector"))
	}
	b.use(n, number)
	return number
}

// read notes that something needs an object.
func (b *binder) read(number int) {
	if number != ofUniverse {
		b.objects[number].idle = false
	}
}

// selector binds a Selector: the second identifier stands for something behind a package alone.
func (b *binder) selector(n api.Node) {
	first, second := n.Kids[0], n.Kids[1]
	name := nameOf(second)
	if first.Kind == api.NodeIdent {
		if number, isPackage := b.lookUp(first); isPackage {
			b.use(first, number)
			b.read(number)
			b.use(second, b.exported(b.objects[number].Name, name))
			return
		}
	}
	b.walk(first)
}

// exported is the number of an object of a package that other ones see.
func (b *binder) exported(pkg, name string) int {
	names := b.packages[pkg]
	if !names.has(name) || !Exported(name) {
		panic(wrong("a package has no such object for others"))
	}
	return names[name]
}

// member binds a type that has fields or methods; false of other nodes. These are in no scope.
func (b *binder) member(n api.Node) bool {
	switch n.Kind {
	case api.NodeField:
		b.declare(api.ObjField, n.Kids[0])
		b.walk(n.Kids[1])
	case api.NodeMethod:
		b.declare(api.ObjIMethod, n.Kids[0])
		b.walk(n.Kids[1:]...)
	case api.NodeStruct:
		for _, k := range n.Kids {
			if k.Kind == api.NodeEmbed {
				b.embedded(k)
			}
		}
		b.walk(n.Kids...)
	default:
		return false
	}
	return true
}

// embedded notes the field that an Embed of a struct is; its identifier stands for the type, not for the field.
func (b *binder) embedded(n api.Node) {
	last := n.Kids[0]
	if last.Kind == api.NodeSelector {
		last = last.Kids[1]
	}
	b.object(api.ObjField, last.Text, last.From)
}

// stmt binds a statement that declares or assigns, or that may stand in some places alone; false of other nodes.
func (b *binder) stmt(n api.Node) bool {
	switch n.Kind {
	case api.NodeVar:
		b.walk(n.Kids[1:]...)
		b.enter(api.ObjVar, n.Kids[0])
	case api.NodeConst:
		b.walk(n.Kids[1:]...)
		b.enter(api.ObjConst, n.Kids[0])
	case api.NodeDefine:
		b.define(n)
	case api.NodeReceive:
		b.walk(n.Kids[2])
		b.enterAll(api.ObjVar, n.Kids[:2]...)
	case api.NodeAssign:
		b.assign(n)
	case api.NodeBreak, api.NodeContinue:
		if n.Kind == api.NodeBreak && !b.breaks || n.Kind == api.NodeContinue && !b.continues {
			panic(wrong("a break or continue stands where there is nothing to leave"))
		}
	default:
		return false
	}
	return true
}

// define binds a Define: what its block has already is used by it, everything else is new.
func (b *binder) define(n api.Node) {
	left, right := n.Kids[0], n.Kids[1]
	b.walk(right)
	names, before := table{}, len(b.objects)
	for _, x := range left.Kids {
		switch {
		case x.Text == blankName:
			continue
		case b.has(x.Text):
			b.stand(x)
		default:
			b.enter(api.ObjVar, x)
		}
		names.add(x.Text, x.From)
	}
	if len(b.objects) == before {
		panic(wrong("a definition has nothing new"))
	}
}

// assign binds an Assign: an identifier that is a whole left side of `=` is not read by it, and may be blank.
func (b *binder) assign(n api.Node) {
	left, right := n.Kids[0], n.Kids[1]
	b.walk(right)
	for _, x := range left.Kids {
		if x.Kind != api.NodeIdent || n.Text != "=" {
			b.walk(x)
		} else if x.Text != blankName {
			b.stand(x)
		}
	}
}

// part binds a part of the text that is a scope; false of other nodes.
func (b *binder) part(n api.Node) bool {
	switch n.Kind {
	case api.NodeBlock, api.NodeIf:
		b.within(func() { b.walk(n.Kids...) })
	case api.NodeCase, api.NodeComm:
		b.within(func() {
			b.breaks = true
			b.walk(n.Kids...)
		})
	case api.NodeFor:
		b.within(func() {
			b.breaks, b.continues = true, true
			b.walk(n.Kids...)
		})
	case api.NodeRange:
		b.within(func() {
			b.breaks, b.continues = true, true
			b.walk(n.Kids[2])
			b.enterAll(api.ObjVar, n.Kids[:2]...)
			b.walk(n.Kids[3])
		})
	case api.NodeFuncLit:
		b.function(max(b.level, 1)+1, api.Node{}, api.Node{}, n.Kids[0], n.Kids[1], n.Kids[2])
	default:
		return false
	}
	return true
}

// function binds a function at a level: its parts without its own name, of which some may be wanting.
func (b *binder) function(level int, recv, tparams, params, results, body api.Node) {
	b.within(func() {
		b.level, b.breaks, b.continues = level, false, false
		for _, p := range tparams.Kids {
			b.enter(api.ObjTParam, p.Kids[0])
		}
		for _, p := range tparams.Kids {
			b.walk(p.Kids[1])
		}
		if recv.Kind == api.NodeRecv {
			b.walk(recv.Kids[1])
		}
		for _, p := range params.Kids {
			b.walk(p.Kids[1])
		}
		b.walk(results)
		if recv.Kind == api.NodeRecv {
			b.enter(api.ObjParam, recv.Kids[0])
		}
		for _, p := range params.Kids {
			b.enterAll(api.ObjParam, p.Kids[0])
		}
		// The body is no scope of its own.
		b.walk(body.Kids...)
	})
}
