package parse_test

import (
	"strings"
	"testing"

	"recast/api"
	"recast/parse"
	"recast/tree"
)

// nesting is a way of nesting: base nodes deep without a piece, more with each one. What fills the rest up adds 1.
type nesting struct {
	form, ahead, open, fill, core, shut, behind string
	base, each                                  int
}

const inBody = "package a; func f() {"

var nestings = []nesting{
	{"ONLYEXPR", "", "(", "", "a", ")", "", 1, 1}, {"ONLYEXPR", "", "- ", "", "a", "", "", 1, 1}, {"ONLYEXPR", "", "!", "", "a", "", "", 1, 1}, {"ONLYEXPR", "", "& ", "", "a", "", "", 1, 1}, {"ONLYEXPR", "", "*", "", "a", "", "", 1, 1}, {"ONLYEXPR", "", "<-", "", "a", "", "", 1, 1},
	{"ONLYEXPR", "", "", "", "a", "+a", "", 1, 1}, {"ONLYEXPR", "", "", "", "a", "||a", "", 1, 1}, {"ONLYEXPR", "", "a*(", "!", "a", ")", "", 1, 2}, {"ONLYEXPR", "", "", "", "a", ".a", "", 1, 1}, {"ONLYEXPR", "", "", "", "a", ".(a)", "", 1, 1}, {"ONLYEXPR", "", "", "", "a", "[a]", "", 1, 1}, {"ONLYEXPR", "", "a[", "!", "a", "]", "", 1, 1}, {"ONLYEXPR", "", "", "", "a", "()", "", 1, 1}, {"ONLYEXPR", "", "f(b, ", "!", "a", ", c)", "", 1, 1}, {"ONLYEXPR", "", "T{", "!", "a", "}", "", 1, 1}, {"ONLYEXPR", "", "T{a: ", "!", "a", "}", "", 1, 2}, {"ONLYEXPR", "", "func(){", "{", "", "}", "", -1, 3}, {"ONLYEXPR", "a.(", "*", "", "a", "", ")", 2, 1}, {"ONLYEXPR", "f(", "[]", "", "a", "", ")", 2, 1}, {"ONLYEXPR", "", "[]", "", "a", "", "{}", 2, 1},
	{"ONLYTYPE", "", "*", "", "a", "", "", 1, 1}, {"ONLYTYPE", "", "[]", "", "a", "", "", 1, 1}, {"ONLYTYPE", "", "chan ", "", "a", "", "", 1, 1}, {"ONLYTYPE", "", "(", "", "a", ")", "", 1, 1}, {"ONLYTYPE", "", "func(", "*", "a", ")", "", 1, 2}, {"ONLYTYPE", "", "func() ", "*", "a", "", "", 1, 2}, {"ONLYTYPE", "", "func() (a, ", "*", "a", ")", "", 1, 2}, {"ONLYTYPE", "", "struct { a ", "*", "a", "}", "", 1, 2}, {"ONLYTYPE", "", "interface { M(", "*", "a", ")}", "", 1, 3}, {"ONLYTYPE", "", "interface { M() ", "*", "a", "}", "", 1, 3},
	{"FILE", "package a; type T ", "*", "", "a", "", "", 3, 1}, {"FILE", "package a; var x ", "[]", "", "a", "", "", 3, 1}, {"FILE", "package a; const x = ", "!", "", "a", "", "", 3, 1}, {"FILE", "package a; func f(a ", "*", "", "a", "", ") {}", 5, 1}, {"FILE", "package a; func f() ", "*", "", "a", "", " {}", 4, 1}, {"FILE", "package a; func f[A b|", "*", "", "a", "", "]() {}", 6, 1},
	{"FILE", inBody, "{", "", "", "}", "}", 3, 1}, {"FILE", inBody, "if a {", "{", "", "}", "}", 3, 2}, {"FILE", inBody, "if a {} else ", "", "if a {}", "", "}", 5, 1}, {"FILE", inBody, "if a {} else {", "{", "", "}", "}", 3, 2}, {"FILE", inBody, "for {", "{", "", "}", "}", 3, 2}, {"FILE", inBody, "for range a {", "{", "", "}", "}", 3, 2}, {"FILE", inBody, "switch a { case a: ", "{", "{{}}", "}", "}", 5, 2}, {"FILE", inBody, "select { case <-a: ", "{", "{{}}", "}", "}", 5, 2}, {"FILE", inBody, "switch a { default: ", "{", "", "}", "}", 3, 2},
	{"FILE", inBody + "if ", "!", "", "a", "", " {}}", 5, 1}, {"FILE", inBody + "for ", "!", "", "a", "", " {}}", 5, 1}, {"FILE", inBody + "for range ", "!", "", "a", "", " {}}", 5, 1}, {"FILE", inBody + "switch ", "!", "", "a", "", " {}}", 5, 1}, {"FILE", inBody + "switch a { case ", "!", "", "a", "", ": }}", 7, 1}, {"FILE", inBody + "select { case <- ", "!", "", "a", "", ": }}", 7, 1}, {"FILE", inBody + "return a, ", "!", "", "a", "", "}", 5, 1}, {"FILE", inBody + "go f(", "!", "", "a", "", ")}", 6, 1}, {"FILE", inBody + "a = ", "!", "", "a", "", "}", 6, 1}, {"FILE", inBody + "a <- ", "!", "", "a", "", "}", 5, 1}, {"FILE", inBody, "", "", "a", "()", "}", 5, 1},
}

// source is one that is so deep. What fills up has its own closing sign.
func (x nesting) source(deep int) string {
	n := (deep - x.base) / x.each
	rest := (deep - x.base) % x.each
	shut := map[string]string{"(": ")", "{": "}"}[x.fill]
	return x.ahead + strings.Repeat(x.open, n) + strings.Repeat(x.fill, rest) + x.core + strings.Repeat(shut, rest) + strings.Repeat(x.shut, n) + x.behind
}

func TestDeep(t *testing.T) {
	for _, x := range nestings {
		call := calls[x.form]
		if n, fault := call(x.source(api.MaxNest)); fault.Code != 0 || tree.Depth(n) != api.MaxNest {
			t.Errorf("P5.1: %s nested by %q at %q: %v, depth %d", x.form, x.open+x.shut, x.ahead, fault, tree.Depth(n))
		}
		for _, deep := range []int{api.MaxNest + 1, api.MaxNest + 2, api.MaxNest + 3, 1000} {
			src := x.source(deep)
			if got := told(call(src)); got != "fault 5 at 0" {
				t.Errorf("P5.1: %s nested by %q at %q, %d deep: %.80s", x.form, x.open+x.shut, x.ahead, deep, got)
			}
			// What is wrong is told ahead of what is too deep.
			if n, fault := call(src + " )"); fault != (api.Fault{Code: api.FaultSyntax, At: len(src) + 1}) || n.Kind != 0 {
				t.Errorf("P5.1: %s nested by %q at %q, %d deep, and a wrong token: %v", x.form, x.open+x.shut, x.ahead, deep, fault)
			}
		}
	}
}

// The longest sources, of what could make a reading slow, or too deep for its stack.
func TestLongSources(t *testing.T) {
	t.Parallel()
	done := map[string]bool{}
	for _, x := range nestings {
		if done[x.open+x.core+x.shut] {
			continue
		}
		done[x.open+x.core+x.shut] = true
		n := (api.MaxBytes - len(x.ahead+x.core+x.behind)) / len(x.open+x.shut)
		src := x.ahead + strings.Repeat(x.open, n) + x.core + strings.Repeat(x.shut, n) + x.behind
		if got := told(calls[x.form](src)); got != "fault 5 at 0" {
			t.Errorf("W4: %s nested by %q, %d times: %.80s", x.form, x.open+x.shut, n, got)
		}
		if x.shut == "" || x.open == "" {
			continue
		}
		src = x.ahead + strings.Repeat(x.open, (api.MaxBytes-len(x.ahead))/len(x.open))
		if n, fault := calls[x.form](src); fault.Code != api.FaultSyntax || fault.At != len(src) || n.Kind != 0 {
			t.Errorf("W4: %s opened by %q: %v", x.form, x.open, fault)
		}
	}
	for _, x := range []struct{ ahead, piece, behind string }{
		{"package a\n", "var a b\n", ""}, {inBody, ";", "}"}, {inBody, "a\n", "}"}, {inBody + "a", ",a", "=a}"}, {inBody + "a=a", ",a", "}"}, {"package a; var x = f(", "a,", ")"}, {"package a; var x = T{", "a:a,", "}"}, {"package a; type T struct{", "a b;", "}"}, {"package a; type T interface{", "M();", "}"}, {inBody + "switch a {", "case a:", "}}"}, {inBody + "switch a { case a", ",a", ":}}"}, {inBody + "select {", "default:", "}}"}, {"package a; func f(", "a b,", ") {}"}, {"package a; func f[A b", "|c", "]() {}"}, {"package a; func f[", "A b,", "]() {}"}, {inBody + "return a", ",a", "}"}, {"package a\n", "import \"\"\n", ""},
	} {
		n := (api.MaxBytes - len(x.ahead+x.behind)) / len(x.piece)
		src := x.ahead + strings.Repeat(x.piece, n) + x.behind
		tr, fault := parse.File(src)
		if fault.Code != 0 || tr.From != 0 {
			t.Errorf("W4: %d times %q behind %q: %v", n, x.piece, x.ahead, fault)
		}
	}
}
