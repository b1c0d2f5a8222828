package module_test

import (
	"math/rand/v2"
	"slices"
	"testing"

	"recast/api"
	"recast/module"
	"recast/tags"
)

// sample is files of several packages and tags, with all forms that have lists within.
func sample() []api.File {
	return files(
		"main/b.gc", "package main; import \"b\"\nfunc main() { if b.X > 0 { print(f(1, 2)...) } }",
		"main/a.gc", "//build t || !u\npackage main; import \"c\"; import \"b\"\ntype T struct { x int; c.C }",
		"b/x.gc", "//build t\npackage b\nvar X = []int{1, 2, 3}[0]",
		"b/y.gc", "//build !t\npackage b; import \"c\"\nconst X = 1",
		"c/x.gc", "package c\ntype C struct { y int }",
	)
}

// What is told hangs on the files, not on their order.
func TestAnyOrder(t *testing.T) {
	want := whole(loaded(t, sample()))
	for _, l := range orders(sample()) {
		if got := whole(loaded(t, l)); got != want {
			t.Fatalf("P7.5: of %q there is\n%s\nwant\n%s", l, got, want)
		}
	}
	random := rand.New(rand.NewPCG(7, 5))
	for range 3000 {
		l := listed(drafts(random, true))
		m, want := module.Load(l)
		random.Shuffle(len(l), func(i, k int) { l[i], l[k] = l[k], l[i] })
		n, fault := module.Load(l)
		if fault != want || whole(m) != whole(n) {
			t.Fatalf("P7.5: of %q in another order there is %v, want %v", l, fault, want)
		}
	}
}

// The files and tags that are handed in stay as they were, their spare room too.
func TestHandedInUnchanged(t *testing.T) {
	all := append(sample(), files("?", "?", "a/a.gc", "package a")...)
	was := slices.Clone(all)
	for n := range all {
		m, _ := module.Load(all[:n])
		set := []string{"u", "t", "u", "x", "a"}
		m.Config(set[:3])
		if !slices.Equal(all, was) || !slices.Equal(set, []string{"u", "t", "u", "x", "a"}) {
			t.Fatalf("P7.5: %q has become %q, the tags %q", was, all, set)
		}
	}
}

// Nothing of the list of files is kept: it may change afterwards.
func TestNothingKept(t *testing.T) {
	l := sample()
	m := loaded(t, l)
	want := whole(m)
	clear(l)
	if got := whole(m); got != want {
		t.Errorf("P7.5: the module was\n%s\nand is\n%s", want, got)
	}
	set := []string{"t"}
	row, _ := m.Config(set)
	text := shown(row)
	set[0] = "u"
	if shown(row) != text {
		t.Errorf("P7.5: the packages were %s and are %s", text, shown(row))
	}
}

// spoil changes all that a list has, its spare room too.
func spoil[T any](l []T, with T) {
	l = l[:cap(l)]
	for i := range l {
		l[i] = with
	}
}

// spoilTree changes all nodes within one.
func spoilTree(n api.Node) {
	for _, k := range n.Kids {
		spoilTree(k)
	}
	spoil(n.Kids, api.Node{Kind: -9, Text: "changed"})
}

// What is answered may be changed: neither the module nor another answer does with it.
func TestAnswersAreNew(t *testing.T) {
	m := loaded(t, sample())
	want := whole(m)
	for _, path := range m.Paths() {
		n, _ := m.Tree(path)
		spoilTree(n)
		other, _ := tags.Read("//build other")
		*m.Rule(path) = *other
	}
	spoil(m.Paths(), "changed")
	spoil(m.Tags(), "changed")
	for _, set := range subsets(m.Tags()) {
		row, _ := m.Config(set)
		for _, p := range row {
			spoil(p.Files, "changed")
			spoil(p.Imports, "changed")
		}
		spoil(row, module.Package{Name: "changed"})
	}
	if got := whole(m); got != want {
		t.Errorf("P7.5: the module was\n%s\nand is\n%s", want, got)
	}
}

// No two lists of one answer share memory: each is looked at and then spoilt, with its spare room.
func TestListsOfTheirOwn(t *testing.T) {
	m := loaded(t, sample())
	for _, set := range subsets(m.Tags()) {
		want, _ := m.Config(set)
		row, _ := m.Config(set)
		for i, p := range row {
			if !slices.Equal(p.Files, want[i].Files) {
				t.Fatalf("P7.5: Files of %s is %q, want %q", p.Name, p.Files, want[i].Files)
			}
			spoil(p.Files, "changed")
			if !slices.Equal(p.Imports, want[i].Imports) {
				t.Fatalf("P7.5: Imports of %s is %q, want %q", p.Name, p.Imports, want[i].Imports)
			}
			spoil(p.Imports, "changed")
		}
	}
	for _, path := range m.Paths() {
		n, _ := m.Tree(path)
		seen := map[*api.Node]int{}
		claim(t, seen, n.Kids)
		again, _ := m.Tree(path)
		claim(t, seen, again.Kids)
	}
}

// claim notes each node of a list, its spare room too, and wants it not to be noted before.
func claim(t *testing.T, seen map[*api.Node]int, l []api.Node) {
	t.Helper()
	all := l[:cap(l)]
	for i := range all {
		if seen[&all[i]]++; seen[&all[i]] > 1 {
			t.Fatalf("P7.5: two lists share the node %s", nodes(all[i]))
		}
		claim(t, seen, all[i].Kids)
	}
}

// Two modules have nothing in common, of the same files too; asking one changes nothing.
func TestModulesApart(t *testing.T) {
	l := sample()
	m, n := loaded(t, l), loaded(t, l)
	want := whole(m)
	*m = *loaded(t, files("main/a.gc", "package main"))
	for range 2 {
		if got := whole(n); got != want {
			t.Fatalf("rule 7: the other module was\n%s\nand is\n%s", want, got)
		}
	}
}
