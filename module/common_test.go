package module_test

import (
	"fmt"
	"slices"
	"strings"
	"testing"

	"recast/api"
	"recast/module"
)

// files is a list of files: path, text, path, text ..
func files(l ...string) []api.File {
	var out []api.File
	for i := 0; i+1 < len(l); i += 2 {
		out = append(out, api.File{Path: l[i], Text: l[i+1]})
	}
	return out
}

// loaded is the module of files that must load.
func loaded(t *testing.T, l []api.File) *module.Module {
	t.Helper()
	m, fault := module.Load(l)
	if m == nil || fault != (api.Fault{}) {
		t.Fatalf("P7.1: Load(%.200q) is %v, %v", l, m, fault)
	}
	return m
}

// rejected wants files to have the fault, and no module.
func rejected(t *testing.T, l []api.File, want api.Fault) {
	t.Helper()
	m, fault := module.Load(l)
	if m != nil || fault != want {
		t.Errorf("P7.1: Load(%.200q) is %v, %v, want %v", l, m, fault, want)
	}
}

// shown is a row of packages.
func shown(l []module.Package) string {
	var texts []string
	for _, p := range l {
		texts = append(texts, p.Name+" ["+strings.Join(p.Files, " ")+"] ["+strings.Join(p.Imports, " ")+"]")
	}
	return strings.Join(texts, "; ")
}

// whole is all that a module tells.
func whole(m *module.Module) string {
	var b strings.Builder
	fmt.Fprintln(&b, m.Tags(), m.Paths())
	for _, path := range append(m.Paths(), "", "?", "main/none.gc") {
		n, there := m.Tree(path)
		text, known := m.Text(path)
		fmt.Fprintf(&b, "%s: %s %v %q %v %s\n", path, nodes(n), there, text, known, m.Rule(path).Text())
	}
	for _, set := range subsets(m.Tags()) {
		row, fault := m.Config(set)
		fmt.Fprintln(&b, set, shown(row), fault)
	}
	return b.String()
}

// nodes is a tree as a text; lists of no items, nil or not, are the same.
func nodes(n api.Node) string {
	out := fmt.Sprintf("%d %d-%d %q(", n.Kind, n.From, n.To, n.Text)
	for _, k := range n.Kids {
		out += nodes(k)
	}
	return out + ")"
}

// subsets is all sets of names, each in the order of names.
func subsets(names []string) [][]string {
	if len(names) == 0 {
		return [][]string{nil}
	}
	var out [][]string
	for _, s := range subsets(names[1:]) {
		out = append(out, s, append([]string{names[0]}, s...))
	}
	return out
}

// orders is all orders of a list.
func orders[T any](l []T) [][]T {
	if len(l) == 0 {
		return [][]T{nil}
	}
	var out [][]T
	for i := range l {
		rest := slices.Concat(l[:i], l[i+1:])
		for _, o := range orders(rest) {
			out = append(out, append([]T{l[i]}, o...))
		}
	}
	return out
}
