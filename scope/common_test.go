package scope_test

import (
	"fmt"
	"slices"
	"strings"
	"testing"

	"recast/api"
	"recast/module"
	"recast/scope"
)

// files is a list of files: path, text, path, text ..
func files(l ...string) []api.File {
	var out []api.File
	for i := 0; i+1 < len(l); i += 2 {
		out = append(out, api.File{Path: l[i], Text: l[i+1]})
	}
	return out
}

// loaded is the module of files, and its packages where no tag is true; false, if it has none.
func loaded(l []api.File) (*module.Module, []module.Package, bool) {
	m, fault := module.Load(l)
	if fault.Code != 0 {
		return nil, nil, false
	}
	pkgs, fault := m.Config(nil)
	return m, pkgs, fault.Code == 0
}

// bound is what Bind answers of files that load.
func bound(t *testing.T, l []api.File) ([]api.Object, []api.Use, bool) {
	t.Helper()
	m, pkgs, ok := loaded(l)
	if !ok {
		t.Fatalf("%.500q does not load", l)
	}
	return scope.Bind(m, pkgs)
}

// inMain is a module of one file: so many statements in its function main.
func inMain(stmts string) []api.File {
	return files("main/a.gc", "package main; func main() { "+stmts+" }")
}

// withMain is a module of one file with these declarations beside its function main.
func withMain(decls string) []api.File {
	return files("main/a.gc", "package main; "+decls+"; func main() {}")
}

// rejected wants Bind to take none of the modules, and to tell nothing of them.
func rejected(t *testing.T, what string, l []api.File) {
	t.Helper()
	if objs, uses, ok := bound(t, l); ok || len(objs)+len(uses) > 0 {
		t.Errorf("%s: Bind of %.500q is %v, with %v, %v", what, l, ok, objs, uses)
	}
}

// taken wants Bind to take the module.
func taken(t *testing.T, what string, l []api.File) {
	t.Helper()
	if _, _, ok := bound(t, l); !ok {
		t.Errorf("%s: Bind of %.500q is false", what, l)
	}
}

// kindNames is how the kinds of objects are told here, by their numbers.
var kindNames = strings.Fields("? package var const type func method field param tparam imethod")

// shownObject is an object in short.
func shownObject(o api.Object) string {
	return fmt.Sprintf("%s %s %s %s %d %d", kindNames[o.Kind], o.Name, o.Pkg, o.Path, o.At, o.Level)
}

// shown is all that Bind answered.
func shown(objs []api.Object, uses []api.Use, ok bool) string {
	var b strings.Builder
	fmt.Fprintln(&b, ok)
	for _, o := range objs {
		fmt.Fprintf(&b, "%s %v\n", shownObject(o), o.Type)
	}
	for _, u := range uses {
		fmt.Fprintln(&b, u.Path, u.At, u.Obj)
	}
	return b.String()
}

// A text with marks says what its identifiers stand for: behind each one that has a use stand a ' and a sign, the
// same one where they stand for the same object, and a 0 where that is one of the universe.

// letter tells whether a byte may stand in an identifier.
func letter(c byte) bool {
	return c == '_' || 'a' <= c && c <= 'z' || 'A' <= c && c <= 'Z' || '0' <= c && c <= '9'
}

// mark is the sign at an identifier.
type mark struct {
	at   int
	sign string
}

// unmarked is a text without its marks, and these.
func unmarked(text string) (string, []mark) {
	var plain []byte
	var marks []mark
	for i := 0; i < len(text); i++ {
		if text[i] != '\'' {
			plain = append(plain, text[i])
			continue
		}
		from := len(plain)
		for from > 0 && letter(plain[from-1]) {
			from--
		}
		i++
		marks = append(marks, mark{from, text[i : i+1]})
	}
	return string(plain), marks
}

// marked is a text with the marks put in.
func marked(text string, marks []mark) string {
	for _, m := range slices.Backward(marks) {
		to := m.at
		for to < len(text) && letter(text[to]) {
			to++
		}
		text = text[:to] + "'" + m.sign + text[to:]
	}
	return text
}

// numbering gives signs their numbers, in the order in which they first come.
type numbering map[string]string

// of is the number of a sign; that of the universe keeps its own.
func (n numbering) of(sign string) string {
	if sign == "0" {
		return sign
	}
	if n[sign] == "" {
		n[sign] = fmt.Sprint(len(n) + 1)
	}
	return n[sign]
}

// says wants what identifiers stand for to be as the marks in the files' texts say.
func says(t *testing.T, l ...string) {
	t.Helper()
	var plain []api.File
	var want, got []string
	wanted, found := numbering{}, numbering{}
	byPath := map[string]string{}
	for i := 0; i+1 < len(l); i += 2 {
		byPath[l[i]] = l[i+1]
		text, _ := unmarked(l[i+1])
		plain = append(plain, api.File{Path: l[i], Text: text})
	}
	_, uses, ok := bound(t, plain)
	if !ok {
		t.Errorf("P12.3: Bind of %.500q is false", plain)
		return
	}
	slices.SortFunc(plain, func(a, b api.File) int { return strings.Compare(a.Path, b.Path) })
	for _, f := range plain {
		_, marks := unmarked(byPath[f.Path])
		for i := range marks {
			marks[i].sign = wanted.of(marks[i].sign)
		}
		want = append(want, marked(f.Text, marks))
		var seen []mark
		for _, u := range uses {
			if u.Path == f.Path {
				seen = append(seen, mark{u.At, found.of(fmt.Sprint(u.Obj + 1))})
			}
		}
		got = append(got, marked(f.Text, seen))
	}
	if !slices.Equal(got, want) {
		t.Errorf("P12.3: identifiers stand for\n%s\nwant\n%s", strings.Join(got, "\n"), strings.Join(want, "\n"))
	}
}
