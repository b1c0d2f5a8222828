package tags_test

import (
	"slices"
	"strings"
	"testing"

	"recast/api"
	"recast/tags"
)

// ten is as many tags as may be, rising.
func ten() []string { return strings.Fields("a b c d e f g h i j") }

func TestExamples(t *testing.T) {
	r := line(t, "a && !b")
	if !r.Holds([]string{"a"}) || r.Holds([]string{"a", "b"}) || !slices.Equal(r.Tags(), []string{"a", "b"}) {
		t.Errorf("Examples: %v %v %q", r.Holds([]string{"a"}), r.Holds([]string{"a", "b"}), r.Tags())
	}
	wrong(t, "a &&")
	first(t, "//build", "true")
	first(t, "// build a", "true")
	if got := line(t, "((a||b))&&!(c)").Text(); got != "(a || b) && !c" {
		t.Errorf("Examples: %s", got)
	}
}

func TestTags(t *testing.T) {
	for _, x := range [][2]string{
		{"true", ""}, {"!true||true", ""}, {"a", "a"}, {"!a", "a"}, {"b&&a", "a b"}, {"b||a&&b", "a b"}, {"c&&b||a", "a b c"}, {"!(z||a9)&&!(a10||a)", "a a10 a9 z"}, {"b && (a || (b && !a)) && true", "a b"},
		{"ab||b||a||aa||a0", "a a0 aa ab b"}, {"true1||atrue||false", "atrue false true1"}, {strings.Join(strings.Fields("k j i h g f e d c b a"), "||"), "a b c d e f g h i j k"},
	} {
		if got := line(t, x[0]).Tags(); !slices.Equal(got, strings.Fields(x[1])) {
			t.Errorf("P6.2: Tags of %s is %q, want %s", x[0], got, x[1])
		}
	}
}

func TestHolds(t *testing.T) {
	for _, x := range []struct{ line, at, not string }{
		{"a", "a/a b/b a/a a/c a c a/a true", "/b/A/aa/b c/!a/a && b/a\n/ a/\xff/true"}, {"!a", "/b/aa/b true", "a/a b/b a/a a"}, {"a && b", "a b/b a/b b a/c a b", "/a/b/a a/ab/a && b/a c"},
		{"a || b", "a/b/a b/c b", "/c/ab/a || b"}, {"a || b && c", "a/b c/a b/a c/a b c", "/b/c/d"}, {"(a || b) && c", "a c/b c/a b c", "/a/b/c/a b"}, {"a && b || c", "c/a b/a c/b c/a b c", "/a/b/d"},
		{"a && (b || c)", "a b/a c/a b c", "/a/b c/b"}, {"!a && b", "b/b c", "/a/a b"}, {"!(a && b)", "/a/b/c", "a b/a b c"}, {"!a || b", "/b/a b", "a/a c"}, {"!(a || b)", "/c", "a/b/a b"}, {"!!a", "a/a b", "/b"}, {"!!!a", "/b", "a"},
		{"a && !a", "", "/a/b/a b"}, {"a || !a", "/a/b/a b", ""},
	} {
		r := line(t, x.line)
		see := func(list string, want bool) {
			if list == "" {
				return
			}
			for _, s := range strings.Split(list, "/") {
				if got := r.Holds(setOf(s)); got != want {
					t.Errorf("P6.2: of %s Holds(%q) is %v", x.line, setOf(s), got)
				}
			}
		}
		see(x.at, true)
		see(x.not, false)
	}
}

// setOf is the tags of a text: what blanks part, if all of these are tags, else the text itself.
func setOf(s string) []string {
	if strings.ContainsAny(s, "&|!\n") || strings.HasPrefix(s, " ") {
		return []string{s}
	}
	return strings.Fields(s)
}

func TestText(t *testing.T) {
	for _, x := range [][2]string{
		{"a", "a"}, {"  a  ", "a"}, {"(a)", "a"}, {"((a))", "a"}, {"( ( a ) )", "a"}, {"(true)", "true"}, {"!a", "!a"}, {"! a", "!a"}, {"!(a)", "!a"}, {"(!a)", "!a"}, {"!!a", "!!a"}, {"!(!a)", "!!a"}, {"!(!(a))", "!!a"}, {"! ! ! a", "!!!a"},
		{"a&&b", "a && b"}, {"a||b", "a || b"}, {"a  &&  b", "a && b"}, {"(a&&b)", "a && b"}, {"(a)&&(b)", "a && b"}, {"(!a)&&(!b)", "!a && !b"}, {"!(a&&b)", "!(a && b)"}, {"!(a||b)", "!(a || b)"}, {"!((a||b))", "!(a || b)"}, {"!!(a&&b)", "!!(a && b)"}, {"!(!(a||b))", "!!(a || b)"},
		{"a||b&&c", "a || b && c"}, {"a||(b&&c)", "a || b && c"}, {"(a||b)&&c", "(a || b) && c"}, {"a&&b||c", "a && b || c"}, {"(a&&b)||c", "a && b || c"}, {"a&&(b||c)", "a && (b || c)"}, {"(a||b)&&(c||d)", "(a || b) && (c || d)"}, {"a&&b||c&&d", "a && b || c && d"}, {"a||b&&c||d", "a || b && c || d"},
		{"a&&b&&c", "a && b && c"}, {"(a&&b)&&c", "a && b && c"}, {"a&&(b&&c)", "a && b && c"}, {"(a||b)||(c||d)", "a || b || c || d"}, {"a||(b||(c||d))", "a || b || c || d"}, {"a&&(b&&(c||d))&&e", "a && b && (c || d) && e"}, {"a||((b||c)&&d)", "a || (b || c) && d"},
		{"!(a&&b)&&c", "!(a && b) && c"}, {"(!(a||b))||c", "!(a || b) || c"}, {"!((a&&b)||c)", "!(a && b || c)"}, {"!((a||b)&&c)", "!((a || b) && c)"}, {"!(!a&&!(b))", "!(!a && !b)"}, {"b||a||b", "b || a || b"}, {"((a||b))&&!(c)", "(a || b) && !c"},
	} {
		if got := line(t, x[0]).Text(); got != x[1] {
			t.Errorf("P6.2: Text of %q is %q, want %q", x[0], got, x[1])
		}
	}
}

// short is rules of few signs, and what they are at each set of a, b.
func short() (texts []string, at [][4]bool) {
	for n := range 6 {
		for _, row := range rows(n) {
			if _, ok := value(row, nil); !ok {
				continue
			}
			var holds [4]bool
			for i, set := range subsets([]string{"a", "b"}) {
				holds[i], _ = value(row, set)
			}
			texts, at = append(texts, strings.Join(row, " ")), append(at, holds)
		}
	}
	return texts, at
}

// All pairs of short rules: what Same tells is what the sets tell.
func TestSamePairs(t *testing.T) {
	texts, at := short()
	var rules []*tags.Rule
	for _, s := range texts {
		rules = append(rules, line(t, s))
	}
	for i, r := range rules {
		for k, s := range rules {
			x, y := at[i], at[k]
			// The sets of a, b in the order of counting: none, b, a, a b.
			none, b, a := x[0] == y[0], x[1] == y[1], x[2] == y[2]
			for _, want := range []struct {
				tags string
				same bool
			}{{"", none}, {"b", none && b}, {"a", none && a}, {"a b", x == y}, {"b a b", x == y}, {"c b", none && b}} {
				if got := r.Same(s, strings.Fields(want.tags)); got != want.same {
					t.Fatalf("P6.2: %q Same %q at the tags %q is %v", texts[i], texts[k], want.tags, got)
				}
			}
		}
	}
}

func TestSame(t *testing.T) {
	all := strings.Join(ten(), " && ")
	eleven := append(ten(), "k")
	for _, x := range []struct {
		one, other, tags string
		want             bool
	}{
		{"!(a&&b)", "!a||!b", "a b", true}, {"a", "b", "a b", false}, {"a", "b", "a", false}, {"a", "b", "b", false}, {"a", "b", "c", true}, {"a", "b", "", true}, {"a", "a && true", "a", true}, {"a", "!a", "", false}, {"a || !a", "true", "a", true}, {"a", "a", "x y z", true},
		// One set alone tells them apart: the last, the first, one within.
		{all, "!true", strings.Join(ten(), " "), false}, {all, "!true", "a b c d e f g h i", true}, {all, "!true", "b c d e f g h i j", true}, {"!(" + strings.Join(ten(), "||") + ")", "!true", strings.Join(ten(), " "), false},
		{"!a && b && c && d && !e && f && g && h && i && j", "!true", "j i h g f e d c b a", false}, {"!a && b && c && d && !e && f && g && h && i && j", "!true", "j i h g f e d c b", false}, {"!a && b && c && d && !e && f && g && h && i && j", "!true", "a d c b", true},
		{all, all, strings.Join(ten(), " "), true}, {all, all, strings.Join(append(ten(), ten()...), " "), true}, {all, "!true", strings.Join(append(ten(), "j", "a"), " "), false},
		{"a", "a", strings.Join(eleven, " "), false}, {"true", "true", strings.Join(eleven, " "), false}, {"a", "b", strings.Join(eleven, " "), false}, {"z", "y", strings.Join(eleven, " "), false}, {"a", "a", strings.Join(append(eleven, eleven...), " "), false},
	} {
		one, other, list := line(t, x.one), line(t, x.other), strings.Fields(x.tags)
		if got := one.Same(other, list); got != x.want || other.Same(one, list) != got {
			t.Errorf("P6.2: %s Same %s at the tags %s is %v", x.one, x.other, x.tags, got)
		}
	}
}

func TestNoRuleIsTrue(t *testing.T) {
	var none *tags.Rule
	var zero tags.Rule
	for what, r := range map[string]*tags.Rule{"nil": none, "zero": &zero, "new": {}} {
		if len(r.Tags()) != 0 || !r.Holds(nil) || !r.Holds([]string{"a"}) || r.Text() != "true" {
			t.Errorf("P6.4: %s: %q %v %s", what, r.Tags(), r.Holds(nil), r.Text())
		}
		if back := line(t, r.Text()); !back.Same(r, []string{"a"}) || !r.Same(back, []string{"a"}) {
			t.Errorf("P6.5: %s is not the same, read back", what)
		}
		for _, s := range []*tags.Rule{none, &zero, line(t, "true"), line(t, "a||!a")} {
			if !r.Same(s, nil) || !s.Same(r, []string{"b", "a"}) || r.Same(s, append(ten(), "k")) || !r.Same(s, ten()) {
				t.Errorf("P6.4: %s is not the same as %s", what, s.Text())
			}
		}
		for _, s := range []string{"!true", "!a", "a&&!a"} {
			if r.Same(line(t, s), []string{"a"}) || line(t, s).Same(r, []string{"a"}) {
				t.Errorf("P6.4: %s is the same as %s", what, s)
			}
		}
		if line(t, "a").Same(r, nil) || !line(t, "!a").Same(r, nil) {
			t.Errorf("P6.4: %s at no tags", what)
		}
	}
	// A source without a rule is `true` in each method, too.
	r, err := tags.Read("package a")
	if err != api.OK || !r.Holds(nil) || len(r.Tags()) != 0 || !r.Same(none, ten()) {
		t.Errorf("P6.1: %d, %q", err, r.Tags())
	}
}
