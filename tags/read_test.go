package tags_test

import (
	"strings"
	"testing"

	"recast/api"
	"recast/tags"
)

// first wants the rule of a source to have the text.
func first(t *testing.T, src, want string) {
	t.Helper()
	r, err := tags.Read(src)
	if err != api.OK || r.Text() != want {
		t.Errorf("P6.1: Read(%.60q) is %q, %d, want %q", src, r.Text(), err, want)
	}
}

func TestFirstLine(t *testing.T) {
	for _, x := range [][2]string{
		{"//build a", "a"}, {"//build a\n", "a"}, {"//build a\nb", "a"}, {"//build a\n//build b", "a"}, {"//build a\n\xff\x00", "a"}, {"//build a && !b\npackage a\n", "a && !b"},
		{"//build true", "true"}, {"//build  a", "a"}, {"//build a ", "a"}, {"//build   a   \n", "a"},
	} {
		first(t, x[0], x[1])
	}
	for _, src := range []string{
		"", "\n", "x", "package a", "//build", "//build\n", "//build\na", "//build\ta", "//build\r\n", "//builda", "//build!a", "//build(a)", "//build,a", "//buil", "//buildd a",
		"// build a", "// build", " //build a", "\n//build a", "\t//build a", "\ufeff//build a", "/build a", "/ /build a", "///build a", "/*build a*/", "//Build a", "//BUILD a",
		"//+build a", "//go:build a", "build a", "a //build a", "\xff", "\x00//build a", "//build\u00a0a", "//build\x00a", "//x\n//build a",
	} {
		first(t, src, "true")
	}
}

// A source that begins with the line's beginning has no rule but that line's.
func TestNoRule(t *testing.T) {
	for _, s := range []string{
		"", " ", "\n", " \n", "\na", " \na", "\r", "a\r", "a\r\n", "a\t", "\ta", "a\x00", "\xff", "a \xff", "é", "ａ", "a\u00a0", "\u2003a", "A", "aB", "Ab", "a_b", "_", "_a", "a_", "a.b", "a-b", "a/b",
		"9", "0", "9a", "a 9", "a b", "a true", "true a", "true true", "True", "TRUE", "a!b", "a !b", "a! ", "a!", "!", "!!", "! ", "!()", "! && a", "a && !", "(", ")", "()", "( )", "(a", "a)", "((a)", "(a))", ")a(", "(a)(b)", "(a) b", "a (b)", "a()",
		"&&", "||", "a &&", "&& a", "a ||", "|| a", "a && && b", "a || || b", "a && || b", "a || && b", "a &&& b", "a ||| b", "a && (", "a && )", "(a &&) b", "(&& a)", "(a || )", "a & b", "a | b", "a &", "a |", "a & & b", "a | | b", "&", "|", "a &| b",
		"a, b", "a,b", "a == b", "a != b", "!=a", "a = b", "//", "// a", "a // b", "a /* b */", "a;", "a; b", "a && b;", `"a"`, "'a'", "-a", "+a", "~a", "^a", "[a]", "{a}", "a < b", "!a b", "!(a) b", "a && b c",
	} {
		wrong(t, s)
		against(t, strings.Split(s, "\n")[0])
	}
}

// A tag is an Ident of 3, of letters a to z and digits alone.
func TestTagNames(t *testing.T) {
	long := "a" + strings.Repeat("9z", 29) + "q"
	for _, s := range []string{"a", "z", "a0", "a9", "q1w2", "false", "nil", "int", "main", "truea", "true1", "atrue", "truetrue", "tru", "rue", "build", "iota", "form", "fo", long} {
		r := line(t, s)
		if r.Text() != s || len(r.Tags()) != 1 || r.Tags()[0] != s || r.Holds(nil) || !r.Holds([]string{s}) || r.Holds([]string{"true"}) {
			t.Errorf("P6.1: %q is %q with the tags %q", s, r.Text(), r.Tags())
		}
		first(t, "//build!"+s, "true")
	}
	if len(long) != api.MaxName {
		t.Fatalf("%d", len(long))
	}
	for _, s := range append(strings.Fields(words), long+"a", long+"0", strings.Repeat("a", 1000)) {
		for _, form := range []string{s, "!" + s, "a && " + s, s + " || a", "(" + s + ")"} {
			wrong(t, form)
		}
	}
	for _, w := range strings.Fields(words) {
		if got := line(t, w+"1&&x"+w).Text(); got != w+"1 && x"+w {
			t.Errorf("P6.1: %s", got)
		}
	}
}

// `true` is no tag: it holds whatever is true.
func TestTrue(t *testing.T) {
	for _, x := range []struct {
		line, text string
		none, a    bool
	}{
		{"true", "true", true, true}, {"!true", "!true", false, false}, {"!!true", "!!true", true, true}, {"(true)", "true", true, true}, {"true&&a", "true && a", false, true},
		{"true||a", "true || a", true, true}, {"!true||a", "!true || a", false, true}, {"a&&!true", "a && !true", false, false}, {"!(true&&a)", "!(true && a)", true, false},
	} {
		r := line(t, x.line)
		for _, behind := range []string{"true", "false", "b"} {
			if r.Text() != x.text || r.Holds(nil) != x.none || r.Holds([]string{"a"}) != x.a || r.Holds([]string{behind}) != x.none || r.Holds([]string{"a", behind}) != x.a {
				t.Errorf("P6.2: %q is %q, holds: %v, %v", x.line, r.Text(), r.Holds(nil), r.Holds([]string{"a"}))
			}
		}
		for _, n := range r.Tags() {
			if n != "a" {
				t.Errorf("P6.2: %q has the tag %q", x.line, n)
			}
		}
	}
}

// Just as many signs and tags as may be, and one more.
func TestMostSigns(t *testing.T) {
	const most = api.MaxNest
	repeat := strings.Repeat
	for _, s := range []string{
		repeat("!", most-1) + "a", repeat("! ", most-1) + "true", "!" + repeat("(", most/2-1) + "a" + repeat(")", most/2-1), repeat("!(", most/3-1) + "!!!!a" + repeat(")", most/3-1),
		"!a" + repeat("&&a", most/2-1), "!a" + repeat("  ||  b", most/2-1), "!true" + repeat("&&true", most/2-1), "(a)&&!b" + repeat("||true", most/2-3), repeat("(a||", most/4-1) + "!!!b" + repeat(")", most/4-1),
	} {
		row, _ := pieces(s)
		if len(row) != most {
			t.Fatalf("%q has %d signs and tags", s, len(row))
		}
		against(t, s)
		against(t, "  "+repeat(" ", 70000)+s+"    ")
		for _, more := range []string{"!" + s, "! " + s + " "} {
			wrong(t, more)
		}
		wrong(t, "("+s+")")
		wrong(t, s+"&&a")
		wrong(t, s+" || true")
		text := line(t, s).Text()
		if got := line(t, text).Text(); got != text {
			t.Errorf("P6.5: %q is read back as %q", text, got)
		}
	}
}

// Anything ends, and soon.
func TestLargeSources(t *testing.T) {
	const n = 1 << 20
	for _, s := range []string{"!", "(", ")", "a", "a ", "&&", "||", "&", "a&&", "(a)", "!a||", "9", " ", "true", "true ", "\xff", "\x00", "é"} {
		wrong(t, strings.Repeat(s, n))
		wrong(t, strings.Repeat(s, n)+"\na")
		if r := line(t, "a\n"+strings.Repeat(s, n)); r.Text() != "a" {
			t.Errorf("P6.1: %q", r.Text())
		}
	}
	first(t, strings.Repeat(" ", n)+"//build a", "true")
	first(t, "//build "+strings.Repeat(" ", n)+"a"+strings.Repeat(" ", n), "a")
}
