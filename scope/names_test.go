package scope_test

import (
	"strings"
	"testing"

	"recast/api"
	"recast/scan"
	"recast/scope"
)

func TestUniverse(t *testing.T) {
	all := map[string]int{}
	for kind, names := range map[int]string{
		api.ObjType:   "int string bool any",
		api.ObjTParam: "comparable",
		api.ObjConst:  "true false",
		api.ObjVar:    "nil",
		api.ObjFunc:   "append close len make new panic print read recover",
	} {
		for _, name := range strings.Fields(names) {
			all[name] = kind
		}
	}
	for name, kind := range all {
		if got := scope.Universe(name); got != kind {
			t.Errorf("P12.1: Universe(%q) is %d, want %d", name, got, kind)
		}
		// All that is nearly one of them: a byte less, more, or another one.
		for i := range len(name) + 1 {
			for c := range 256 {
				for _, other := range []string{name[:i] + string([]byte{byte(c)}) + name[i:], name[:i], name[i:], name[:i] + string([]byte{byte(c)}) + name[min(i+1, len(name)):]} {
					if got := scope.Universe(other); got != all[other] {
						t.Errorf("P12.1: Universe(%q) is %d, want %d", other, got, all[other])
					}
				}
			}
		}
	}
	for _, name := range []string{"", "_", "main", "error", "byte", "rune", "uint", "float64", "iota", "cap", "copy", "delete", "println", "min", "max", "clear", "func", "chan", "map", "Int", "NIL", "int ", " int", "int\x00", "x.int", strings.Repeat("int", 1000)} {
		if got := scope.Universe(name); got != 0 {
			t.Errorf("P12.1: Universe(%q) is %d, want 0", name, got)
		}
	}
	for name := range all {
		if !scan.Ident(name) {
			t.Errorf("P12.1: %s is no identifier", name)
		}
	}
}

func TestExported(t *testing.T) {
	for c := range 256 {
		first := string([]byte{byte(c)})
		for _, rest := range []string{"", "a", "A", "_", "1", "\x00", "É"} {
			if got, want := scope.Exported(first+rest), strings.Contains("ABCDEFGHIJKLMNOPQRSTUVWXYZ", first); got != want {
				t.Errorf("P12.1: Exported(%q) is %v", first+rest, got)
			}
		}
	}
	for name, want := range map[string]bool{"": false, "Abc": true, "aBC": false, "_A": false, "1A": false, " A": false, "É": false, "Ａ": false, "Z": true, "Z9": true} {
		if got := scope.Exported(name); got != want {
			t.Errorf("P12.1: Exported(%q) is %v", name, got)
		}
	}
}
