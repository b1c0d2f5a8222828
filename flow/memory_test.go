package flow_test

import (
	"fmt"
	"slices"
	"testing"

	"recast/api"
	"recast/check"
	"recast/flow"
	"recast/tree"
)

// roomy is a list with spare room behind it, in which something stands.
func roomy[T any](l []T, filler T) []T {
	out := append(make([]T, 0, len(l)+3), l...)
	for i := len(out); i < cap(out); i++ {
		out[:cap(out)][i] = filler
	}
	return out
}

// wide is a tree all lists of which have spare room.
func wide(n api.Node) api.Node {
	n.Kids = slices.Clone(n.Kids)
	for i, x := range n.Kids {
		n.Kids[i] = wide(x)
	}
	n.Kids = roomy(n.Kids, api.Node{Kind: api.NodeReturn, Text: "spare"})
	return n
}

// shown is a tree with its spare room.
func shown(n api.Node) string {
	out := fmt.Sprint(n.Kind, n.From, n.To, n.Text, len(n.Kids))
	for _, x := range n.Kids[:cap(n.Kids)] {
		out += "(" + shown(x) + ")"
	}
	return out
}

// whole is lists with their spare room.
func whole(r check.Result) string {
	return fmt.Sprint(r.Info.Objects[:cap(r.Info.Objects)], r.Info.Uses[:cap(r.Info.Uses)], r.Info.Types[:cap(r.Info.Types)], r.Named[:cap(r.Named)], r.Order[:cap(r.Order)])
}

// greatest is a file with statements of many kinds.
func greatest(t *testing.T) source {
	s, _ := body(t, "a[x] = g() + h(1); v.M(x); v.f++; d, x := (x2 + 1) * 3, C; if q && x > 1 || m == 2 { d = x }; for i := range a { print(i, y); defer h(i) }; func() { x2 = recover().(int) }(); _ = T{f: d, U: u}; be.P(); s = \"a\"; x2, y = y, x2")
	return s
}

// answers is all that is answered of a file.
func answers(s source, shared []int) string {
	var out []any
	for _, n := range tree.All(s.tree) {
		out = append(out, flow.Shared(s.Result, n, s.path), flow.Assigned(s.Result, s.path, n), flow.Used(s.Result, s.path, n), flow.Leaves(n), flow.Recovers(s.Result, s.path, n), flow.Inert(s.Result, s.path, shared, n))
		if tree.Stmt(n) {
			for _, e := range tree.All(n) {
				out = append(out, flow.First(s.Result, s.path, shared, n, e))
			}
		}
	}
	return fmt.Sprint(out...)
}

func TestNothingChanged(t *testing.T) {
	s := greatest(t)
	s.Info.Objects = roomy(s.Info.Objects, api.Object{Name: "x"})
	s.Info.Uses = roomy(s.Info.Uses, api.Use{Path: "zz", Obj: 1})
	s.Info.Types = roomy(s.Info.Types, api.Typed{Path: "zz"})
	s.Named = roomy(s.Named, api.Named{Name: "zz"})
	s.Order = roomy(s.Order, 77)
	for i, n := range s.Named {
		s.Named[i].Methods = roomy(n.Methods, api.Method{Name: "x"})
		s.Named[i].Under.Kids = roomy(n.Under.Kids, api.Type{Kind: 99})
	}
	s.tree = wide(s.tree)
	shared := s.shared()
	slices.Reverse(shared)
	shared = roomy(append(shared, -1, -1), 99)
	beforeResult, beforeTree, beforeShared := whole(s.Result), shown(s.tree), fmt.Sprint(shared[:cap(shared)])
	if first := answers(s, shared); first != answers(s, shared) || first != answers(greatest(t), greatest(t).shared()) {
		t.Error("P15.6: what is answered hangs on more than what is handed in")
	}
	if whole(s.Result) != beforeResult || shown(s.tree) != beforeTree || fmt.Sprint(shared[:cap(shared)]) != beforeShared {
		t.Error("P15.6: what was handed in is changed")
	}
}

func TestNothingKept(t *testing.T) {
	s := greatest(t)
	before := answers(s, s.shared())
	for range 2 {
		for _, l := range [][]int{flow.Shared(s.Result, s.tree, s.path), flow.Assigned(s.Result, s.path, s.tree), flow.Used(s.Result, s.path, s.tree)} {
			if len(l) < 3 {
				t.Fatal("that is not much of a test")
			}
			for i := range l[:cap(l)] {
				l[:cap(l)][i] = -7
			}
		}
	}
	other := mains(t, "", "v := 1; _ = &v")
	answers(other, nil)
	if after := answers(s, s.shared()); after != before {
		t.Error("P15.6: what was answered is kept, or what was handed in")
	}
}

// odd is trees that no source has, out of a right one: what is there is taken away, or turned.
func odd(n api.Node) []api.Node {
	out := []api.Node{{}, {Kind: -1}, {Kind: 1 << 62}}
	for kind := range 100 {
		out = append(out, api.Node{Kind: kind}, api.Node{Kind: kind, Kids: []api.Node{{}}}, api.Node{Kind: kind, Kids: []api.Node{n}}, api.Node{Kind: kind, Text: "=", Kids: []api.Node{{Kind: kind}, n}})
	}
	return out
}

// Trees and results that do not belong together, and such as there are none of, have no meaning, but end.
func TestOddArguments(t *testing.T) {
	s := greatest(t)
	results := []check.Result{
		{}, s.Result, {Info: s.Info}, {Named: s.Named}, {Info: api.Info{Uses: s.Info.Uses}}, {Info: api.Info{Types: s.Info.Types, Uses: s.Info.Uses}}, {Info: api.Info{Objects: s.Info.Objects, Uses: s.Info.Uses}},
		{Info: api.Info{Uses: []api.Use{{Obj: 5}, {Obj: -7}, {Obj: 1 << 62}}, Objects: []api.Object{{Kind: api.ObjMethod}}}},
		{Info: api.Info{Uses: []api.Use{{Path: "main/a.gc"}}, Objects: []api.Object{{Kind: api.ObjMethod, Path: "main/a.gc"}}}},
		{Info: api.Info{Types: []api.Typed{{Path: "main/a.gc", Type: api.Type{Kind: api.TypeNamed, Name: "main.A"}}}, Uses: []api.Use{{Path: "main/a.gc"}}, Objects: []api.Object{{Kind: api.ObjField, Path: "main/a.gc"}}}, Named: []api.Named{{Name: "main.A", Under: api.Type{Kind: api.TypeNamed, Name: "main.A"}}}},
	}
	var some []api.Node
	for _, n := range tree.All(s.tree) {
		if len(n.Kids) > 0 && len(some) < 40 {
			some = append(some, n)
		}
	}
	for _, r := range results {
		for _, x := range append([]api.Node{{}, s.tree}, some...) {
			for _, n := range append(odd(x), x) {
				for _, path := range []string{"main/a.gc", ""} {
					flow.Shared(r, n, path)
					flow.Assigned(r, path, n)
					flow.Used(r, path, n)
					flow.Leaves(n)
					flow.Recovers(r, path, n)
					flow.Inert(r, path, []int{-1, 1 << 62, 0}, n)
					flow.First(r, path, []int{-1, 1 << 62, 0}, n, x)
					flow.First(r, path, nil, x, n)
				}
			}
		}
	}
	if flow.Inert(check.Result{}, "", nil, s.tree) || flow.First(check.Result{}, "", nil, s.tree, s.tree) || flow.Leaves(api.Node{}) || flow.Recovers(check.Result{}, "", s.tree.Kids[0]) {
		t.Error("rule 1: nothing is something")
	}
	if l := append(append(flow.Shared(check.Result{}, s.tree, s.path), flow.Used(check.Result{}, s.path, s.tree)...), flow.Assigned(check.Result{}, s.path, s.tree)...); len(l) > 0 {
		t.Errorf("rule 1: of no result there are variables: %v", l)
	}
}
