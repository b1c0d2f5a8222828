package check_test

import (
	"fmt"
	"math/rand/v2"
	"slices"
	"strings"
	"testing"

	"recast/api"
	"recast/check"
	"recast/module"
	"recast/scan"
)

// rows is so many texts behind one another.
func rows(count int, row func(i int) string) string {
	var b strings.Builder
	for i := range count {
		b.WriteString(row(i))
	}
	return b.String()
}

// fourFiles is a module of nearly as many bytes as it may have.
func fourFiles(text func(k int) string) []api.File {
	l := files("main/z.gc", "package main; func main() {}")
	for k := range 4 {
		l = append(l, api.File{Path: fmt.Sprintf("main/a%d.gc", k), Text: "package main\n" + text(k)})
	}
	return l
}

// Modules as great as they may be.
func TestGreatModules(t *testing.T) {
	last := func(k int, text string) string { return strings.Repeat(text, k/3) }
	wide := func(uses string) func(k int) string {
		return func(k int) string {
			if k == 0 {
				return "var t T\nvar i I\ntype T struct {\n" + rows(3000, func(i int) string { return fmt.Sprintf("x%d int\n", i) }) + "}\ntype I interface {\nm0()\n}\nfunc (t T) m0() {}\n"
			}
			return fmt.Sprintf("func f%d() {\n", k) + rows(6000, func(i int) string { return uses }) + "}\n"
		}
	}
	for what, row := range map[string]struct {
		l           []api.File
		types, vars int
	}{
		"functions": {fourFiles(func(k int) string {
			return rows(650, func(i int) string {
				return fmt.Sprintf("func f%d_%d(a int, b string) int { x := a + len(b); if x > 3 { return x }; return a }\n", k, i)
			})
		}), 4 * 650 * 9, 0},
		"constants in a row": {fourFiles(func(k int) string {
			return rows(2400, func(i int) string { return fmt.Sprintf("const c%d = c%d + 1\n", k*2400+i, k*2400+i+1) }) + last(k, "const c9600 = 1")
		}), 3*9600 + 1, 0},
		"variables in a row": {fourFiles(func(k int) string {
			return rows(2400, func(i int) string { return fmt.Sprintf("var c%d = c%d + 1\n", k*2400+i, k*2400+i+1) }) + last(k, "var c9600 = 1")
		}), 3*9600 + 1, 9601},
		"functions in a row": {fourFiles(func(k int) string {
			return rows(900, func(i int) string {
				return fmt.Sprintf("var c%d = f%d()\nfunc f%d() int { return f%d() + c%d }\n", k*900+i, k*900+i+1, k*900+i, k*900+i+1, k*900+i+1)
			}) + last(k, "var c3600 = 1\nfunc f3600() int { return 1 }")
		}), 6*3600 + 2, 3601},
		"types in a row": {fourFiles(func(k int) string {
			return rows(3000, func(i int) string { return fmt.Sprintf("type T%d T%d\n", k*3000+i, k*3000+i+1) }) + last(k, "type T12000 int")
		}), 0, 0},
		"interfaces in a row": {fourFiles(func(k int) string {
			return rows(150, func(i int) string {
				return fmt.Sprintf("type I%d interface { I%d; m%d() }\n", k*150+i, k*150+i+1, k*150+i)
			}) + last(k, "type I600 interface {}")
		}), 0, 0},
		"structs in a row": {fourFiles(func(k int) string {
			return rows(900, func(i int) string {
				return fmt.Sprintf("type S%d struct { S%d; x%d int }\n", k*900+i, k*900+i+1, k*900+i)
			}) + last(k, "type S3600 struct { z int }\nfunc g(s S0) { s.z++; s.x3599++ }")
		}), 4, 0},
		"fields of a great one": {fourFiles(wide("t.x1++\n")), 3 * 6000 * 2, 2},
		"a great one made":      {fourFiles(wide("_=T{}\n")), 3 * 6000, 2},
		"a great one given":     {fourFiles(wide("i=t\n")), 3 * 6000 * 2, 2},
		"brackets in one other": {fourFiles(func(k int) string {
			return rows(100, func(i int) string {
				return fmt.Sprintf("var v%d_%d = %s1%s\n", k, i, strings.Repeat("(", 190), strings.Repeat(")", 190))
			})
		}), 4 * 100 * 191, 400},
		"functions in one other": {files("main/a.gc", "package main; func main() { _ = "+strings.Repeat("func() any { return ", 40)+"nil"+strings.Repeat(" }", 40)+" }"), 41, 0},
		"a deep type": {fourFiles(func(k int) string {
			return fmt.Sprintf("var v%d %sint\nfunc f%d() {\n", k, strings.Repeat("[]", 190), k) + rows(500, func(i int) string { return fmt.Sprintf("_=v%d\n", k) }) + "}\n"
		}), 4 * 500, 4},
		"generic calls": {fourFiles(func(k int) string {
			return fmt.Sprintf("func g%d[T any](x T) T { return x }\nfunc f%d() {\n", k, k) + rows(5000, func(i int) string { return fmt.Sprintf("_=g%d(1)\n", k) }) + "}\n"
		}), 4 * (1 + 2*5000), 0},
	} {
		m := loaded(t, row.l)
		r, fault := check.Module(m, nil)
		if fault.Code != 0 || len(r.Info.Types) != row.types || len(r.Order) != row.vars {
			t.Errorf("rule 1: of %s Module is %v, with %d types, %d variables", what, fault, len(r.Info.Types), len(r.Order))
		}
	}
}

// Whatever stands in a source, checking knows what it does.
func TestOtherTokens(t *testing.T) {
	random := rand.New(rand.NewPCG(13, 3))
	var words []string
	for _, f := range great() {
		tokens, _ := scan.Tokens(f.Text)
		for _, token := range tokens {
			words = append(words, f.Text[token.From:token.To])
		}
	}
	words = append(words, "_", "nil", "comparable", "...", "interface {}", "struct {}", "9223372036854775808", "()", "{}", "[]", "int|string", "x: 1", ":=", "func()", "chan", "*")
	count := 0
	for range 8000 {
		l := slices.Clone(great())
		i := random.IntN(len(l))
		tokens, _ := scan.Tokens(l[i].Text)
		token := tokens[random.IntN(len(tokens))]
		with := words[random.IntN(len(words))]
		switch random.IntN(3) {
		case 0:
			with = ""
		case 1:
			with = l[i].Text[token.From:token.To] + " " + with
		}
		l[i].Text = l[i].Text[:token.From] + with + l[i].Text[token.To:]
		m, fault := module.Load(l)
		if fault.Code != 0 {
			continue
		}
		count++
		if _, other := check.Reason(m, nil); other != nil {
			t.Fatalf("rule 1: checking ends with %v at %s", other, shownFiles(l))
		}
	}
	if count < 1000 {
		t.Errorf("%d modules load: that is not much of a test", count)
	}
}

// Lines left out, twice, and in other places.
func TestOtherLines(t *testing.T) {
	for i, f := range great() {
		lines := strings.Split(f.Text, "\n")
		for n := 1; n < len(lines); n++ {
			for _, parts := range [][][]string{{lines[:n], lines[n+1:]}, {lines[:n+1], lines[n:]}, {lines[:n-1], lines[n : n+1], lines[n-1 : n], lines[n+1:]}} {
				l := slices.Clone(great())
				l[i].Text = strings.Join(slices.Concat(parts...), "\n")
				m, fault := module.Load(l)
				if fault.Code != 0 {
					continue
				}
				why, other := check.Reason(m, nil)
				if _, fault := check.Module(m, nil); other != nil || (fault.Code == 0) != (why == "") {
					t.Fatalf("rule 1: checking ends with %v, Module is %v, at %s", other, fault, shownFiles(l))
				}
			}
		}
	}
}
