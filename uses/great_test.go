package uses_test

import (
	"fmt"
	"strings"
	"testing"
	"time"

	"recast/api"
	"recast/check"
	"recast/uses"
)

// soon wants something to be done before long.
func soon(t *testing.T, what string, do func()) {
	t.Helper()
	begin := time.Now()
	do()
	if took := time.Since(begin); took > time.Minute {
		t.Errorf("%s takes %v", what, took)
	}
}

// repeated is a text so many times, with the number put in for each #.
func repeated(n int, text string) string {
	var b strings.Builder
	for i := range n {
		b.WriteString(strings.ReplaceAll(text, "#", fmt.Sprint(i)))
	}
	return b.String()
}

// spread is a module whose declarations are spread over files of package main.
func spread(decls ...string) []api.File {
	l := files("main/main.gc", "package main; func main() {}")
	for i, d := range decls {
		l = append(l, api.File{Path: fmt.Sprintf("main/f%d.gc", i), Text: "package main\n" + d})
	}
	return l
}

func TestManyTypes(t *testing.T) {
	n := 1000
	l := spread(repeated(n, "type T# int\nfunc (t T#) M() {}\n"), repeated(n, "type I# interface { M() }\n"), repeated(n, "type N# int\n"))
	soon(t, "Relation", func() {
		if l := uses.Relation(checked(t, l)); len(l) != 2*n*n {
			t.Errorf("P14.4: there are %d relations", len(l))
		}
	})
	soon(t, "Family", func() {
		family, ok := uses.Family(loaded(t, l), "main/f1.gc", strings.Index(l[2].Text, "M()"))
		if !ok || len(family) != 2*n {
			t.Errorf("P14.3: the Family has %d places, %v", len(family), ok)
		}
	})
}

func TestLongRows(t *testing.T) {
	n := 400
	l := spread("type T0 struct { x int }\nfunc (t T0) M() {}\ntype I0 interface { M() }\n"+repeated(n, "type A# int\n"),
		strings.ReplaceAll(repeated(n, "type S# struct { R# }\ntype R#+ struct { S# }\ntype J# interface { K# }\ntype K#+ interface { J# }\n"), "+", "x"))
	// Each type embeds the one ahead of it.
	for i := range n {
		l[2].Text = strings.Replace(l[2].Text, fmt.Sprintf("{ R%d }", i), "{ "+ahead("R", "T0", i)+" }", 1)
		l[2].Text = strings.Replace(l[2].Text, fmt.Sprintf("{ K%d }", i), "{ "+ahead("K", "I0", i)+" }", 1)
	}
	r := checked(t, l)
	soon(t, "Member", func() {
		x, ok := uses.Member(r, fmt.Sprintf("main.S%d", n-1), "x")
		m, too := uses.Member(r, fmt.Sprintf("main.J%d", n-1), "M")
		if !ok || !too || r.Info.Objects[x].Path != "main/f0.gc" || r.Info.Objects[m].Path != "main/f0.gc" {
			t.Errorf("P14.2: Member is %d, %v, %d, %v", x, ok, m, too)
		}
	})
	soon(t, "Family", func() {
		family, ok := uses.Family(loaded(t, l), "main/f0.gc", strings.Index(l[1].Text, "M()"))
		if !ok || len(family) != 2 {
			t.Errorf("P14.3: the Family is %v, %v", family, ok)
		}
	})
}

// ahead is the name of what stands ahead of the i-th one.
func ahead(name, first string, i int) string {
	if i == 0 {
		return first
	}
	return fmt.Sprintf("%s%dx", name, i-1)
}

func TestManyConfigurations(t *testing.T) {
	l := files("main/main.gc", "package main; func main() { x() }; func x() {}")
	for i := range 10 {
		l = append(l, api.File{Path: fmt.Sprintf("main/f%d.gc", i), Text: fmt.Sprintf("//build t%d\npackage main; func y%d() { x() }", i, i)})
	}
	l = append(l, files("main/g.gc", "//build t0 && t1 && t2 && t3 && t4 && t5 && t6 && t7 && t8 && t9\npackage main; var f = x")...)
	soon(t, "Family", func() {
		family, ok := uses.Family(loaded(t, l), "main/main.gc", 28)
		if !ok || len(family) != 13 {
			t.Errorf("P14.3: the Family is %v, %v", family, ok)
		}
	})
	l = append(l, files("main/h.gc", "//build t0 && t1 && t2 && t3 && t4 && t5 && t6 && t7 && t8 && t9 && !t9\npackage main; var f = true")...)
	if _, ok := uses.Family(loaded(t, l), "main/main.gc", 28); !ok {
		t.Error("P14.3: what is in no configuration has something to do with a Family")
	}
	l[len(l)-1].Text = strings.Replace(l[len(l)-1].Text, " && !t9", "", 1)
	if family, ok := uses.Family(loaded(t, l), "main/main.gc", 28); ok || len(family) > 0 {
		t.Errorf("P14.3: of a module that is wrong under ten tags the Family is %v, %v", family, ok)
	}
}

// A function and a type of one name, each under a tag, and a field that embeds the type.
func TestManyFamilies(t *testing.T) {
	text, l := "package main; func main() {}", files()
	for i := range 8 {
		text += fmt.Sprintf("; func g%d() { f%d() }", i, i)
		l = append(l, files(fmt.Sprintf("main/f%d.gc", i), fmt.Sprintf("//build !t\npackage main; func f%d() {}", i))...)
	}
	for i := range 8 {
		l = append(l, files(fmt.Sprintf("main/t%d.gc", i), fmt.Sprintf("//build t\npackage main; type T%d struct { f%d }; type f%d int", i, i, i))...)
	}
	text = strings.ReplaceAll(text, "{ f", "{ _ = f")
	text = strings.ReplaceAll(text, "() }", "(1) }")
	for i := range 8 {
		l[i].Text = strings.Replace(l[i].Text, "() {}", "(x int) int { return x }", 1)
	}
	l = append(l, files("main/main.gc", text)...)
	m := loaded(t, l)
	if fault := check.All(m); fault.Code != 0 {
		t.Fatal(fault)
	}
	for i := range 8 {
		family, ok := uses.Family(m, "main/main.gc", at(t, text, fmt.Sprintf("f%d(", i), 0))
		if !ok || len(family) != 4 {
			t.Errorf("P14.3: the Family of f%d is %v, %v", i, family, ok)
		}
	}
}
