package scope_test

import (
	"slices"
	"strings"

	"recast/api"
	"recast/module"
	"recast/scope"
)

// A second reading of the chapter: by places alone. Each identifier is looked at by itself, with the nodes that it
// stands within; what is declared has the node that is its scope and the byte number from which on it is seen.

// spot is a node where it stands.
type spot struct {
	api.Node
	up  *spot
	nth int // of its Kids it is
}

// spots is all nodes within one, this one too, in the order of the text.
func spots(s *spot) []*spot {
	out := []*spot{s}
	for i, k := range s.Kids {
		out = append(out, spots(&spot{k, s, i})...)
	}
	return out
}

// is tells whether a spot is of one of the kinds.
func (s *spot) is(kinds ...int) bool { return s != nil && slices.Contains(kinds, s.Kind) }

// parts of the text that are scopes.
func (s *spot) scope() bool {
	if s.is(api.NodeBlock) {
		return !s.up.is(api.NodeFunc, api.NodeFuncLit)
	}
	return s.is(api.NodeFile, api.NodeFunc, api.NodeFuncLit, api.NodeIf, api.NodeFor, api.NodeRange, api.NodeCase, api.NodeComm)
}

// within is the innermost of those around a spot of which what is true.
func (s *spot) within(what func(*spot) bool) *spot {
	for s = s.up; s != nil && !what(s); s = s.up {
	}
	return s
}

// level is how many functions a spot stands within, as the chapter counts them.
func (s *spot) level() int {
	lits, function := 0, false
	if s.up.is(api.NodeFunc) && s.nth == 1 {
		return 0
	}
	for s = s.up; s != nil; s = s.up {
		if s.is(api.NodeFuncLit) {
			lits++
		}
		function = function || s.is(api.NodeFunc, api.NodeFuncLit)
	}
	if !function {
		return 0
	}
	return lits + 1
}

// side is the number of the side of the statement of one of the kinds on which an identifier stands by itself: 0
// left, 1 right; -1, if it does not.
func (s *spot) side(kind int, text string) int {
	if s.up.is(api.NodeExprs) && s.up.up.is(kind) && s.up.up.Text == text {
		return s.up.nth
	}
	return -1
}

// declared is an object with where it is seen.
type declared struct {
	api.Object
	home  *spot // nil: in no scope
	begin int
	must  bool // be used
}

// roles of identifiers.
const (
	plain    = iota // it stands for something, and needs it
	written         // it stands for something
	declares        // it is the first use of an object
	either          // one of a Define's
	silent          // it stands for nothing, or is for others to say
)

// role is what an identifier is, and, of one that declares, the object's kind and where it is seen.
func role(s *spot) (what, kind int, home *spot, begin int) {
	function := s.within(func(x *spot) bool { return x.is(api.NodeFunc, api.NodeFuncLit) })
	home = s.within((*spot).scope)
	file := s.within(func(x *spot) bool { return x.is(api.NodeFile) })
	switch p := s.up; {
	case p.is(api.NodeFile), p.is(api.NodeSelector) && s.nth == 1, p.is(api.NodeKeyed) && s.nth == 0:
		return silent, 0, nil, 0
	case p.is(api.NodeFunc) && s.nth == 1 && p.Kids[0].Kind == api.NodeNone:
		return declares, api.ObjFunc, file, 0
	case p.is(api.NodeFunc) && s.nth == 1:
		return declares, api.ObjMethod, nil, 0
	case s.side(api.NodeDefine, "") == 0:
		return either, api.ObjVar, home, p.up.To
	case s.side(api.NodeAssign, "=") == 0:
		return written, 0, nil, 0
	case p.is(api.NodeRange) && s.nth < 2:
		return declares, api.ObjVar, p, p.Kids[3].From
	case p.is(api.NodeReceive) && s.nth < 2:
		return declares, api.ObjVar, p.up, p.To
	case s.nth > 0:
		return plain, 0, nil, 0
	case p.is(api.NodeVar):
		return declares, api.ObjVar, home, p.To
	case p.is(api.NodeConst):
		return declares, api.ObjConst, home, p.To
	case p.is(api.NodeType):
		return declares, api.ObjType, home, 0
	case p.is(api.NodeField):
		return declares, api.ObjField, nil, 0
	case p.is(api.NodeMethod):
		return declares, api.ObjIMethod, nil, 0
	case p.is(api.NodeTParam):
		return declares, api.ObjTParam, function, function.From
	case p.is(api.NodeParam, api.NodeRecv):
		results := slices.IndexFunc(function.Kids, func(n api.Node) bool { return n.Kind == api.NodeResults })
		return declares, api.ObjParam, function, function.Kids[results].To
	}
	return plain, 0, nil, 0
}

// reading is what was read so far.
type reading struct {
	objs  []declared
	uses  []api.Use
	needs map[int]int // of each object, how often something needs it
	main  bool
	wrong bool
}

// add notes an object.
func (r *reading) add(kind int, name, path string, s *spot, home *spot, begin int) int {
	pkg, _, _ := strings.Cut(path, "/")
	o := declared{Object: api.Object{Kind: kind, Name: name, Pkg: pkg, Path: path, At: s.From, Level: s.level()}, home: home, begin: begin}
	o.must = kind == api.ObjPackage || kind == api.ObjVar && !home.is(api.NodeFile)
	for _, x := range r.objs {
		together := x.home == home || home.is(api.NodeFile) && x.home.is(api.NodeFile) && x.Pkg == o.Pkg && (kind != api.ObjPackage || x.Kind != api.ObjPackage)
		if home != nil && x.Name == name && together {
			r.wrong = true
		}
	}
	r.objs = append(r.objs, o)
	return len(r.objs) - 1
}

// find is what a name stands for at a place of a file.
func (r *reading) find(name, path string, at int) (int, bool) {
	best, width := -1, 0
	pkg, _, _ := strings.Cut(path, "/")
	for i, o := range r.objs {
		local := o.home != nil && !o.home.is(api.NodeFile)
		seen := o.Path == path && local && o.begin <= at && o.home.From <= at && at < o.home.To
		seen = seen || o.home.is(api.NodeFile) && o.Pkg == pkg && (o.Kind != api.ObjPackage || o.Path == path)
		size := 1 << 30
		if local {
			size = o.home.To - o.home.From
		}
		if seen && o.Name == name && (best < 0 || size < width) {
			best, width = i, size
		}
	}
	return best, best >= 0 || scope.Universe(name) != 0
}

// declare reads what a file declares.
func (r *reading) declare(path string, all []*spot) {
	for _, s := range all {
		switch {
		case s.is(api.NodeImport):
			r.add(api.ObjPackage, s.Text, path, s, s.up, 0)
			r.wrong = r.wrong || scope.Universe(s.Text) != 0 || s.Text == "main"
		case s.is(api.NodeEmbed) && s.up.is(api.NodeStruct):
			last := &spot{s.Kids[0], s, 0}
			if last.is(api.NodeSelector) {
				last = &spot{last.Kids[1], last, 1}
			}
			r.add(api.ObjField, last.Text, path, last, nil, 0)
		case s.is(api.NodeIdent):
			r.declareOne(path, s)
		case s.is(api.NodeFunc) && path[:5] == "main/" && s.Kids[1].Text == "main":
			none := func(i int) bool { return len(s.Kids[i].Kids) == 0 }
			r.main = r.main || none(0) && none(2) && none(3) && none(4)
		}
	}
}

// declareOne reads an identifier that may declare something.
func (r *reading) declareOne(path string, s *spot) {
	what, kind, home, begin := role(s)
	if s.Text == "_" {
		ok := what == either || what == written || what == declares && (s.up.is(api.NodeParam, api.NodeRange, api.NodeReceive))
		r.wrong = r.wrong || !ok
		return
	}
	if what == declares {
		r.uses = append(r.uses, api.Use{Path: path, At: s.From, Obj: r.add(kind, s.Text, path, s, home, begin)})
	}
	if what != either {
		return
	}
	for _, k := range s.up.Kids[s.nth+1:] {
		r.wrong = r.wrong || k.Text == s.Text
	}
	old := slices.IndexFunc(r.objs, func(o declared) bool { return o.home == home && o.Name == s.Text && o.begin <= s.From })
	if old < 0 {
		old = r.add(kind, s.Text, path, s, home, begin)
	}
	r.uses = append(r.uses, api.Use{Path: path, At: s.From, Obj: old})
}

// look reads what the identifiers of a file stand for, and its statements that may stand in some places alone.
func (r *reading) look(path string, all []*spot) {
	for _, s := range all {
		switch {
		case s.is(api.NodeDefine):
			fresh := slices.ContainsFunc(s.Kids[0].Kids, func(n api.Node) bool {
				return slices.ContainsFunc(r.objs, func(o declared) bool { return o.Path == path && o.At == n.From })
			})
			r.wrong = r.wrong || !fresh
		case s.is(api.NodeBreak, api.NodeContinue):
			out := s.within(func(x *spot) bool {
				return x.is(api.NodeFor, api.NodeRange, api.NodeFunc, api.NodeFuncLit) || s.is(api.NodeBreak) && x.is(api.NodeSwitch, api.NodeSelect)
			})
			r.wrong = r.wrong || out.is(api.NodeFunc, api.NodeFuncLit)
		case s.is(api.NodeIdent) && s.Text != "_":
			r.lookOne(path, s)
		}
	}
}

// lookOne reads what an identifier stands for.
func (r *reading) lookOne(path string, s *spot) {
	what, _, _, _ := role(s)
	if what != plain && what != written {
		return
	}
	found, ok := r.find(s.Text, path, s.From)
	if !ok {
		r.wrong = true
		return
	}
	r.uses = append(r.uses, api.Use{Path: path, At: s.From, Obj: found})
	if what == plain {
		r.needs[found]++
	}
	if found < 0 || r.objs[found].Kind != api.ObjPackage {
		return
	}
	if !s.up.is(api.NodeSelector) {
		r.wrong = true
		return
	}
	second := s.up.Kids[1]
	member := slices.IndexFunc(r.objs, func(o declared) bool {
		return o.Pkg == s.Text && o.home.is(api.NodeFile) && o.Kind != api.ObjPackage && o.Name == second.Text
	})
	r.uses = append(r.uses, api.Use{Path: path, At: second.From, Obj: member})
	r.wrong = r.wrong || member < 0 || second.Text[0] < 'A' || second.Text[0] > 'Z'
}

// byPlace is the order of places.
func byPlace(path, other string, at, otherAt int) int {
	if path != other {
		return strings.Compare(path, other)
	}
	return at - otherAt
}

// readAgain is what Bind should answer.
func readAgain(m *module.Module, pkgs []module.Package) ([]api.Object, []api.Use, bool) {
	r := reading{needs: map[int]int{}}
	type part struct {
		path string
		all  []*spot
	}
	var parts []part
	for _, p := range pkgs {
		for _, path := range p.Files {
			n, _ := m.Tree(path)
			parts = append(parts, part{path, spots(&spot{n, nil, 0})})
		}
	}
	for _, p := range parts {
		r.declare(p.path, p.all)
	}
	for _, p := range parts {
		r.look(p.path, p.all)
	}
	for i, o := range r.objs {
		r.wrong = r.wrong || o.must && r.needs[i] == 0
	}
	if r.wrong || !r.main {
		return nil, nil, false
	}
	return r.told()
}

// told is what was read, in order.
func (r *reading) told() (objs []api.Object, uses []api.Use, ok bool) {
	for _, o := range r.objs {
		objs = append(objs, o.Object)
	}
	slices.SortFunc(objs, func(a, b api.Object) int { return byPlace(a.Path, b.Path, a.At, b.At) })
	for _, u := range r.uses {
		if u.Obj >= 0 {
			old := r.objs[u.Obj]
			u.Obj = slices.IndexFunc(objs, func(o api.Object) bool { return o.Path == old.Path && o.At == old.At })
		}
		uses = append(uses, u)
	}
	slices.SortFunc(uses, func(a, b api.Use) int { return byPlace(a.Path, b.Path, a.At, b.At) })
	return objs, uses, true
}
