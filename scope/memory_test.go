package scope_test

import (
	"fmt"
	"slices"
	"strings"
	"testing"

	"recast/api"
	"recast/module"
	"recast/scope"
)

// spoil changes all that a list has, its spare room too.
func spoil[T any](l []T, with T) {
	for i := range l[:cap(l)] {
		l[:cap(l)][i] = with
	}
}

// roomy is packages with spare room in all lists, of which the room is filled with something.
func roomy(pkgs []module.Package) []module.Package {
	out := make([]module.Package, len(pkgs), len(pkgs)+3)
	spoil(out, module.Package{Name: "spare", Files: []string{"spare"}})
	for i, p := range pkgs {
		files, imports := make([]string, len(p.Files), len(p.Files)+3), make([]string, len(p.Imports), len(p.Imports)+3)
		spoil(files, "spare")
		spoil(imports, "spare")
		copy(files, p.Files)
		copy(imports, p.Imports)
		out[i] = module.Package{Name: p.Name, Files: files, Imports: imports}
	}
	return out
}

// all is all that packages have, with the spare room.
func all(pkgs []module.Package) string {
	out := ""
	for _, p := range pkgs[:cap(pkgs)] {
		out += fmt.Sprintf("%q %q %q;", p.Name, p.Files[:cap(p.Files)], p.Imports[:cap(p.Imports)])
	}
	return out
}

func TestMemory(t *testing.T) {
	m, pkgs, _ := loaded(great())
	pkgs = roomy(pkgs)
	before := all(pkgs)
	objs, uses, ok := scope.Bind(m, pkgs)
	want := shown(objs, uses, ok)
	if all(pkgs) != before {
		t.Error("P12.6: Bind changes the packages")
	}
	// What was answered is the caller's, and what was handed in is, too.
	spoil(objs, api.Object{Kind: 1, Name: "spoilt"})
	spoil(uses, api.Use{Path: "spoilt"})
	again, usesAgain, ok := scope.Bind(m, pkgs)
	if got := shown(again, usesAgain, ok); got != want {
		t.Errorf("P12.6: Bind keeps what it answered:\n%s\nwant\n%s", got, want)
	}
	for _, p := range pkgs {
		spoil(p.Files, "spoilt")
		spoil(p.Imports, "spoilt")
	}
	spoil(pkgs, module.Package{Name: "spoilt"})
	if got := shown(again, usesAgain, ok); got != want {
		t.Error("P12.6: Bind keeps what it was handed")
	}
}

// The order of the packages, of their files, and what is said of their imports make no difference.
func TestOrderOfPackages(t *testing.T) {
	m, pkgs, _ := loaded(great())
	want := shown(scope.Bind(m, pkgs))
	slices.Reverse(pkgs)
	for i := range pkgs {
		slices.Reverse(pkgs[i].Files)
		pkgs[i].Imports = nil
	}
	if got := shown(scope.Bind(m, pkgs)); got != want {
		t.Errorf("P12.5: Bind is\n%s\nwant\n%s", got, want)
	}
}

// Just the files of the packages count, each configuration has its own.
func TestConfigurations(t *testing.T) {
	m, fault := module.Load(files("main/a.gc", "package main; func main() { print(X) }", "main/b.gc", "//build t\npackage main; var X = 1", "main/c.gc", "//build !t && u\npackage main; func X() {}", "main/d.gc", "//build t && u\npackage main; const X = 1"))
	if fault.Code != 0 {
		t.Fatal(fault)
	}
	for set, want := range map[string]string{"t": "func main 0, var X 0", "u": "func main 0, func X 0", "": "", "t u": ""} {
		pkgs, _ := m.Config(strings.Fields(set))
		objs, _, ok := scope.Bind(m, pkgs)
		if list(objs) != want || ok != (want != "") {
			t.Errorf("P12.4: with %q: Bind is %s, %v", set, list(objs), ok)
		}
	}
}

// Whatever packages are handed in with whatever module, there is an answer.
func TestOddPackages(t *testing.T) {
	m, pkgs, _ := loaded(great())
	other, otherPkgs, _ := loaded(files("main/z.gc", "package main; func main() {}"))
	for what, row := range map[string]struct {
		m    *module.Module
		pkgs []module.Package
	}{
		"nil":              {nil, nil},
		"a nil module":     {nil, pkgs},
		"a zero module":    {&module.Module{}, pkgs},
		"no packages":      {m, nil},
		"zero packages":    {m, make([]module.Package, 3)},
		"another's":        {m, otherPkgs},
		"another":          {other, pkgs},
		"main alone":       {m, []module.Package{pkgs[len(pkgs)-1]}},
		"all but main":     {m, pkgs[:len(pkgs)-1]},
		"twice":            {m, slices.Concat(pkgs, pkgs)},
		"no path":          {m, []module.Package{{Name: "main", Files: []string{"", "?", "main"}}}},
		"another name":     {m, []module.Package{{Name: "other", Files: []string{"main/a.gc", "main/b.gc"}}}},
		"one file of two":  {m, []module.Package{{Name: "main", Files: []string{"main/a.gc"}}}},
		"a file twice":     {other, []module.Package{{Name: "main", Files: []string{"main/z.gc", "main/z.gc"}}}},
		"a name for none":  {other, []module.Package{{Name: "", Files: []string{"main/z.gc"}}}},
		"imports for none": {other, []module.Package{{Name: "b", Files: []string{"main/z.gc"}, Imports: []string{"b", "", "main"}}}},
	} {
		if objs, uses, ok := scope.Bind(row.m, row.pkgs); ok || len(objs)+len(uses) > 0 {
			t.Errorf("P12.4: %s: Bind is %v, %d objects, %d uses", what, ok, len(objs), len(uses))
		}
	}
	// One that the module does not have has nothing in it.
	odd := append(otherPkgs, module.Package{Name: "b", Files: []string{"b/b.gc"}, Imports: []string{"c"}})
	if objs, _, ok := scope.Bind(other, odd); !ok || list(objs) != "func main 0" {
		t.Errorf("P12.4: a package without files: Bind is %s, %v", list(objs), ok)
	}
}

// Modules as great as they may be.
func TestLimits(t *testing.T) {
	nested := strings.Repeat("{ x := x; ", 170) + "x++" + strings.Repeat(" }", 170)
	if objs, uses, ok := bound(t, inMain("x := 1; "+nested)); !ok || len(objs) != 172 || len(uses) != 343 {
		t.Errorf("rule 1: of blocks within one another Bind tells %d objects, %d uses, %v", len(objs), len(uses), ok)
	}
	rejected(t, "rule 1", inMain("x := 1; "+strings.Repeat("{ x := x; ", 170)+strings.Repeat(" }", 170)))
	objs, _, ok := bound(t, withMain("var f = func(a int) {"+strings.Repeat("_ = func(a int) {", 45)+strings.Repeat("}", 46)))
	if !ok || len(objs) != 48 || objs[46].Level != 47 {
		t.Errorf("P12.2: of functions within one another Bind tells %d objects, %v", len(objs), ok)
	}
	// So many blocks, names and files as there is room for.
	var l []api.File
	for i := range 4 {
		l = append(l, api.File{Path: fmt.Sprintf("main/a%d.gc", i), Text: fmt.Sprintf("package main\nfunc f%d() {\nx := 1\n%s}\n", i, strings.Repeat("{x:=x;x++}\n", 5900))})
	}
	l = append(l, api.File{Path: "main/z.gc", Text: "package main; func main() {}"})
	if objs, uses, ok := bound(t, l); !ok || len(objs) != 4*5902+1 || len(uses) != 4*(2+3*5900)+1 {
		t.Errorf("rule 1: of many blocks Bind tells %d objects, %d uses, %v", len(objs), len(uses), ok)
	}
	var rows strings.Builder
	for i := range 3000 {
		fmt.Fprintf(&rows, "x%d := f\n_ = x%d\n", i, i)
	}
	if objs, uses, ok := bound(t, files("main/a.gc", "package main\nfunc f() {}\nfunc main() {\n"+rows.String()+"}")); !ok || len(objs) != 3002 || len(uses) != 9002 {
		t.Errorf("rule 1: of many names Bind tells %d objects, %d uses, %v", len(objs), len(uses), ok)
	}
}
