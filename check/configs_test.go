package check_test

import (
	"fmt"
	"strings"
	"testing"

	"recast/api"
	"recast/check"
	"recast/module"
)

func TestConfigurations(t *testing.T) {
	m := loaded(t, files("main/a.gc", "package main; func main() { print(x) }", "main/b.gc", "//build t\npackage main; var x = 1", "main/c.gc", "//build u\npackage main; const x = \"a\"", "main/d.gc", "//build !t && !u\npackage main; import \"b\"; var x = b.X", "b/b.gc", "//build v\npackage b; var X = true", "b/c.gc", "//build v && u\npackage b; var Y = 1 + \"a\""))
	for set, want := range map[string]string{"t": "x:int", "u": "x:constant string", "v": "x:bool", "": "7", "t u": "8", "t v": "x:int", "u v": "8", "v w": "x:bool", "v v": "x:bool", "w": "7", "t u v": "8"} {
		r, fault := check.Module(m, strings.Fields(set))
		got := fmt.Sprint(fault.Code)
		if fault.Code == 0 {
			for _, o := range r.Info.Objects {
				if o.Name == "x" {
					got = "x:" + kindOf(o.Type)
				}
			}
		} else if !empty(r) || fault != (api.Fault{Code: fault.Code}) {
			t.Errorf("P13.1: with %q: Module is %v, with %v", set, fault, r)
		}
		if got != want {
			t.Errorf("P13.1: with %q: Module is %s, want %s", set, got, want)
		}
	}
	// No tag at all is 7's fault, and comes ahead of what is wrong with other sets.
	if fault := check.All(m); fault != (api.Fault{Code: api.FaultLoad}) {
		t.Errorf("P13.3: All is %v", fault)
	}
}

// kindOf is a type's text, of those that stand here.
func kindOf(t api.Type) string {
	return map[int]string{api.TypeInt: "int", api.TypeBool: "bool", api.TypeConstStr: "constant string"}[t.Kind]
}

func TestAll(t *testing.T) {
	main := "package main; func main() {}"
	wrong, circle := "package main; var x = 1 + \"a\"", "package main; import \"nowhere\"; var x = nowhere.X"
	for _, row := range []struct {
		what string
		l    []api.File
		want int
	}{
		{"all right", files("main/a.gc", main), 0},
		{"right with and without", files("main/a.gc", main, "main/b.gc", "//build t\npackage main; var x = 1", "main/c.gc", "//build !t\npackage main; var x = \"a\""), 0},
		{"wrong", files("main/a.gc", wrong+"; func main() {}"), api.FaultType},
		{"wrong with a tag", files("main/a.gc", main, "main/b.gc", "//build t\n"+wrong), api.FaultType},
		{"wrong without a tag", files("main/a.gc", main, "main/b.gc", "//build !t\n"+wrong), api.FaultType},
		{"wrong with two tags", files("main/a.gc", main, "main/b.gc", "//build t && u\n"+wrong), api.FaultType},
		{"wrong with one of two tags", files("main/a.gc", main, "main/b.gc", "//build t && !u\n"+wrong), api.FaultType},
		{"wrong with ten tags", files("main/a.gc", main, "main/b.gc", "//build a && b && c && d && e && f && g && h && i && j\n"+wrong), api.FaultType},
		{"wrong never", files("main/a.gc", main, "main/b.gc", "//build t && !t\n"+wrong), 0},
		{"twice with a tag", files("main/a.gc", main, "main/b.gc", "//build t\n"+main), api.FaultType},
		{"nothing to begin with", files("main/a.gc", "//build t\n"+main), api.FaultLoad},
		{"no package", files("main/a.gc", main, "main/b.gc", "//build t\n"+circle), api.FaultLoad},
		// In the order of counting: none, u, t, t u.
		{"no package ahead of wrong", files("main/a.gc", main, "main/b.gc", "//build u\n"+circle, "main/c.gc", "//build t\n"+wrong), api.FaultLoad},
		{"wrong ahead of no package", files("main/a.gc", main, "main/b.gc", "//build t\n"+circle, "main/c.gc", "//build u\n"+wrong), api.FaultType},
		{"no package ahead of wrong with both", files("main/a.gc", main, "main/b.gc", "//build t && u\n"+wrong, "main/c.gc", "//build t && !u\n"+circle), api.FaultLoad},
		{"both at one", files("main/a.gc", main, "main/b.gc", "//build t\n"+wrong, "main/c.gc", "//build t\n"+strings.Replace(circle, "x", "y", 1)), api.FaultLoad},
	} {
		m := loaded(t, row.l)
		if fault := check.All(m); fault != (api.Fault{Code: row.want}) {
			t.Errorf("P13.3: %s: All is %v, want %d", row.what, fault, row.want)
		}
	}
}

func TestNone(t *testing.T) {
	for what, m := range map[string]*module.Module{"nil": nil, "zero": {}, "no files": loaded(t, nil)} {
		r, fault := check.Module(m, nil)
		if all := check.All(m); fault != (api.Fault{Code: api.FaultLoad}) || all != fault || !empty(r) {
			t.Errorf("P13.4: of a module of %s: Module is %v, All is %v", what, fault, all)
		}
		if _, fault := check.Module(m, []string{"a", "", "?"}); fault != (api.Fault{Code: api.FaultLoad}) {
			t.Errorf("P13.4: of a module of %s: Module is %v", what, fault)
		}
	}
}

func TestEach(t *testing.T) {
	m := loaded(t, files("main/a.gc", "package main; func main() {}", "main/b.gc", "//build t || u\npackage main; var x = 1", "main/c.gc", "//build v\npackage main; var x = 2", "main/d.gc", "//build w && !w\npackage main; var z = 1"))
	var got []string
	for r, fault := range check.Each(m) {
		got = append(got, fmt.Sprint(len(r.Info.Objects), fault.Code))
	}
	if want := "1 0,2 0,2 0,0 8"; strings.Join(got, ",") != want {
		t.Errorf("Each tells %v, want %s: each set of files once, in the order of the sets of tags", got, want)
	}
	n := 0
	for range check.Each(m) {
		n++
		break
	}
	if n != 1 {
		t.Errorf("Each goes on behind a break: %d", n)
	}
}
