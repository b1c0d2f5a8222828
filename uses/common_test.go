package uses_test

import (
	"fmt"
	"slices"
	"strings"
	"testing"

	"recast/api"
	"recast/check"
	"recast/module"
	"recast/scan"
	"recast/tags"
	"recast/uses"
)

// files is a list of files: path, text, path, text ..
func files(l ...string) []api.File {
	var out []api.File
	for i := 0; i+1 < len(l); i += 2 {
		out = append(out, api.File{Path: l[i], Text: l[i+1]})
	}
	return out
}

// loaded is the module of files that load.
func loaded(t *testing.T, l []api.File) *module.Module {
	t.Helper()
	m, fault := module.Load(l)
	if fault.Code != 0 {
		t.Fatalf("%.800s does not load: %v", l, fault)
	}
	return m
}

// checked is what checking tells of files that are right where no tag is true.
func checked(t *testing.T, l []api.File) check.Result {
	t.Helper()
	r, fault := check.Module(loaded(t, l), nil)
	if fault.Code != 0 {
		t.Fatalf("%.800s is not right: %v", l, fault)
	}
	return r
}

// inMain is a module of one file with these declarations beside its function main.
func inMain(decls string) []api.File {
	return files("main/a.gc", "package main; "+decls+"; func main() {}")
}

// at is where a text stands in another one for the n-th time, from 0 on.
func at(t *testing.T, text, part string, n int) int {
	t.Helper()
	from := 0
	for {
		i := strings.Index(text[from:], part)
		if i < 0 {
			t.Fatalf("%q does not stand so often in %q", part, text)
		}
		if from += i; n == 0 {
			return from
		}
		n--
		from++
	}
}

// shownPlaces is places in short.
func shownPlaces(l []uses.Place) string {
	var out []string
	for _, p := range l {
		out = append(out, fmt.Sprint(p.Path, ":", p.At))
	}
	return strings.Join(out, " ")
}

// shownObject is the object of a number, in short.
func shownObject(r check.Result, number int, ok bool) string {
	if !ok {
		return fmt.Sprint("none ", number)
	}
	o := r.Info.Objects[number]
	return fmt.Sprint(o.Kind, " ", o.Name, " ", o.Path, ":", o.At)
}

// A text with marks says who belongs together: behind each identifier that is a use of an object in some configuration
// stand a ' and a sign, the same one where they are of one Family, and a 0 where they have none.

// letter tells whether a byte may stand in an identifier.
func letter(c byte) bool {
	return c == '_' || 'a' <= c && c <= 'z' || 'A' <= c && c <= 'Z' || '0' <= c && c <= '9'
}

// mark is the sign at an identifier.
type mark struct {
	at   int
	sign string
}

// unmarked is a text without its marks, and these.
func unmarked(text string) (string, []mark) {
	var plain []byte
	var marks []mark
	for i := 0; i < len(text); i++ {
		if text[i] != '\'' {
			plain = append(plain, text[i])
			continue
		}
		from := len(plain)
		for from > 0 && letter(plain[from-1]) {
			from--
		}
		i++
		marks = append(marks, mark{from, text[i : i+1]})
	}
	return string(plain), marks
}

// marked is a text with the marks put in.
func marked(text string, marks []mark) string {
	for _, m := range slices.Backward(marks) {
		to := m.at
		for to < len(text) && letter(text[to]) {
			to++
		}
		text = text[:to] + "'" + m.sign + text[to:]
	}
	return text
}

// numbering gives signs their numbers, in the order in which they first come.
type numbering map[string]string

// of is the number of a sign; that of no Family keeps its own.
func (n numbering) of(sign string) string {
	if sign == "0" {
		return sign
	}
	if n[sign] == "" {
		n[sign] = fmt.Sprint(len(n) + 1)
	}
	return n[sign]
}

// usedAnywhere is the places of the uses of objects in all configurations.
func usedAnywhere(m *module.Module) map[uses.Place]bool {
	out := map[uses.Place]bool{}
	for _, set := range tags.Sets(m.Tags()) {
		r, _ := check.Module(m, set)
		for _, u := range r.Info.Uses {
			if u.Obj >= 0 {
				out[uses.Place{Path: u.Path, At: u.At}] = true
			}
		}
	}
	return out
}

// belong wants Families to be as the marks in the files' texts say.
func belong(t *testing.T, l ...string) {
	t.Helper()
	var plain []api.File
	for i := 0; i+1 < len(l); i += 2 {
		text, _ := unmarked(l[i+1])
		plain = append(plain, api.File{Path: l[i], Text: text})
	}
	m := loaded(t, plain)
	if fault := check.All(m); fault.Code != 0 {
		t.Errorf("All is %v of %s", fault, plain)
		return
	}
	anywhere := usedAnywhere(m)
	wanted, found := numbering{}, numbering{}
	for i, f := range plain {
		_, marks := unmarked(l[2*i+1])
		for j := range marks {
			marks[j].sign = wanted.of(marks[j].sign)
		}
		var seen []mark
		tokens, _ := scan.Tokens(f.Text)
		for _, x := range tokens {
			family, ok := uses.Family(m, f.Path, x.From)
			switch {
			case ok:
				seen = append(seen, mark{x.From, found.of(shownPlaces(family))})
			case len(family) > 0:
				t.Errorf("P14.3: Family is false, with %v", family)
			case anywhere[uses.Place{Path: f.Path, At: x.From}]:
				seen = append(seen, mark{x.From, "0"})
			}
		}
		if got, want := marked(f.Text, seen), marked(f.Text, marks); got != want {
			t.Errorf("P14.3: those belong together that are numbered alike in\n%s: %s\nwant\n%s", f.Path, got, want)
		}
	}
}
