package module_test

import (
	"slices"
	"strconv"
	"strings"
	"testing"

	"recast/api"
	"recast/module"
	"recast/parse"
)

// Whatever stands ahead of and behind the slash, just those that the document describes are paths.
func TestPaths(t *testing.T) {
	long := strings.Repeat("a", api.MaxName)
	for _, path := range []string{
		"main/a.gc", "a/b.gc", "z/z.gc", "a1/b2.gc", "main/main.gc", "main/a_.gc", "main/a_1.gc", "main/a__b_.gc", "a0z9/a0_z9.gc",
		"int/true.gc", "nil/any.gc", "gc/gc.gc", "fors/fo.gc", long + "/" + long + ".gc",
	} {
		dir, _, _ := strings.Cut(path, "/")
		m := loaded(t, files(path, "package "+dir))
		if got := m.Paths(); !slices.Equal(got, []string{path}) {
			t.Errorf("P7.2: Paths is %q, want %q", got, path)
		}
	}
	for _, path := range []string{
		"", "/", "main", "main/", "main/a", "main.gc", ".gc", "/.gc", "main/.gc", "/a.gc", "a.gc", "main/a.", "main/agc", "main/a.g", "main/a.go", "main/a.gcc", "main/a.GC", "main/a.gc ", "main/a.gc/", " main/a.gc", "main/ a.gc", "main /a.gc", "main/a .gc",
		"Main/a.gc", "maiN/a.gc", "main/A.gc", "main/aB.gc", "1a/a.gc", "1/a.gc", "main/1a.gc", "main/1.gc", "_/a.gc", "a_/a.gc", "_a/a.gc", "a_b/a.gc", "main/_.gc", "main/_a.gc", "main/_1.gc",
		"for/a.gc", "main/for.gc", "map/a.gc", "main/go.gc", "fallthrough/a.gc", "main/goto.gc",
		"main/a/b.gc", "main//a.gc", "/main/a.gc", "./a.gc", "../a.gc", "main/../a.gc", "main/./a.gc", "main/a.b.gc", "main/a.gc.gc", "main.x/a.gc", "main\\a.gc", "main/a-b.gc", "a-b/a.gc", "main/a\n.gc", "main\n/a.gc", "main/a.gc\n", "main/a.gc\x00", "main/\x00a.gc", "ma\xffin/a.gc", "main/\xff.gc", "é/a.gc", "main/é.gc", "main/aé.gc",
		long + "a/a.gc", "main/" + long + "a.gc", "ａ/a.gc", "main/a٣.gc", "main/{.gc", "main/`.gc", "main/@.gc", "main/[.gc", "ma:in/a.gc", "{/a.gc", "`/a.gc",
	} {
		dir, _, _ := strings.Cut(path, "/")
		rejected(t, files(path, "package "+dir), api.Fault{Code: api.FaultPath, Path: path})
	}
}

// Every byte in the place of each byte of a path.
func TestPathBytes(t *testing.T) {
	const path = "m0/n_1.gc"
	low, digits := "abcdefghijklmnopqrstuvwxyz", "0123456789"
	may := []string{low, low + digits, "/", low, low + digits + "_", low + digits + "_", ".", "g", "c"}
	for i := range len(path) {
		for c := range 256 {
			one := path[:i] + string([]byte{byte(c)}) + path[i+1:]
			dir, _, _ := strings.Cut(one, "/")
			_, fault := module.Load(files(one, "package "+dir))
			want := api.Fault{}
			// A slash further on would be ahead of the right one, or be a second one: no place but its own takes it.
			if !strings.Contains(may[i], string([]byte{byte(c)})) {
				want = api.Fault{Code: api.FaultPath, Path: one}
			}
			if fault != want {
				t.Errorf("P7.1: Load of the path %q is %v, want %v", one, fault, want)
			}
		}
	}
}

// many is so many files of package main, all right.
func many(n int) []api.File {
	var out []api.File
	for i := range n {
		out = append(out, api.File{Path: "main/a" + strconv.Itoa(i) + ".gc", Text: "package main"})
	}
	return out
}

// filled is a right text of package main of so many bytes.
func filled(n int) string { return "package main" + strings.Repeat(" ", n-len("package main")) }

func TestLimits(t *testing.T) {
	if got := loaded(t, many(api.MaxFiles)).Paths(); len(got) != api.MaxFiles {
		t.Errorf("P7.1: %d paths of %d files", len(got), api.MaxFiles)
	}
	rejected(t, many(api.MaxFiles+1), api.Fault{Code: api.FaultPath})
	// Neither a wrong path nor one that is twice is told ahead of it.
	rejected(t, append(many(api.MaxFiles), api.File{Path: "?"}), api.Fault{Code: api.FaultPath})
	rejected(t, append(many(api.MaxFiles), many(1)...), api.Fault{Code: api.FaultPath})
	rejected(t, make([]api.File, 1000), api.Fault{Code: api.FaultPath})

	full := files("main/a.gc", filled(api.MaxBytes), "main/b.gc", filled(api.MaxBytes), "main/c.gc", filled(api.MaxBytes), "main/d.gc", filled(api.MaxBytes-20), "main/e.gc", filled(20))
	loaded(t, full)
	full[4].Text += " "
	rejected(t, full, api.Fault{Code: api.FaultPath})
	full[4].Path = "?"
	rejected(t, full, api.Fault{Code: api.FaultPath})
	rejected(t, files("?", strings.Repeat(" ", api.MaxModule+1)), api.Fault{Code: api.FaultPath})
	rejected(t, files("?", strings.Repeat(" ", api.MaxModule)), api.Fault{Code: api.FaultPath, Path: "?"})
	rejected(t, files("main/a.gc", strings.Repeat("#", api.MaxModule)), api.Fault{Code: api.FaultText, Path: "main/a.gc"})
	rejected(t, files("main/a.gc", filled(api.MaxBytes+1)), api.Fault{Code: api.FaultText, Path: "main/a.gc"})

	ten := files("main/a.gc", "//build a && b && c && d && e\npackage main", "main/b.gc", "//build f || g || h || i || j\npackage main", "main/c.gc", "//build a || j\npackage main")
	if got := strings.Join(loaded(t, ten).Tags(), ""); got != "abcdefghij" {
		t.Errorf("P7.2: Tags is %s", got)
	}
	rejected(t, append(ten, files("main/d.gc", "//build k\npackage main")...), api.Fault{Code: api.FaultTags})
	rejected(t, append(ten, files("main/0.gc", "//build k\npackage main")...), api.Fault{Code: api.FaultPath, Path: "main/0.gc"})
	rejected(t, files("main/a.gc", "//build a && b && c && d && e && f && g && h && i && j && k\npackage x"), api.Fault{Code: api.FaultTags})
}

// The faults of one file, and what of a file is no fault.
func TestFaults(t *testing.T) {
	deep := "package main; var x = " + strings.Repeat("(", api.MaxNest) + "1" + strings.Repeat(")", api.MaxNest)
	for _, x := range []struct {
		text string
		code int
		at   int
	}{
		{"\xff", api.FaultText, 0}, {"package main\x00", api.FaultText, 0},
		{"package main #", api.FaultScan, 13}, {"package main\nvar x = \"a", api.FaultScan, 21}, {"//build a\npackage main\n@", api.FaultScan, 23},
		{"", api.FaultSyntax, 0}, {" \n ", api.FaultSyntax, 3}, {"//build a", api.FaultSyntax, 9}, {"package", api.FaultSyntax, 7}, {"package for", api.FaultSyntax, 8}, {"package main; var", api.FaultSyntax, 17}, {"package main; var x int; import \"b\"", api.FaultSyntax, 25}, {"package main; import b", api.FaultSyntax, 21},
		{deep, api.FaultDeep, 0}, {deep + ")", api.FaultSyntax, len(deep)},
		{"//build &\npackage main", api.FaultTags, 0}, {"//build \npackage main", api.FaultTags, 0}, {"//build a b\npackage main", api.FaultTags, 0}, {"//build A\npackage main", api.FaultTags, 0}, {"//build for\npackage main", api.FaultTags, 0}, {"//build a\r\npackage main", api.FaultTags, 0},
		{"//build a && b && c && d && e && f && g && h && i && j && k && &\npackage main", api.FaultTags, 0},
		{"//build " + strings.Repeat("!", api.MaxNest) + "a\npackage main", api.FaultTags, 0},
		{"package x", api.FaultLoad, 0}, {"package Main", api.FaultLoad, 0}, {"package main1", api.FaultLoad, 0}, {"package _", api.FaultLoad, 0}, {"package mai", api.FaultLoad, 0},
		{"package main; import \"b\"; import \"b\"", api.FaultLoad, 0}, {"package main; import \"b\"; import \"c\"; import \"a\"; import \"b\"", api.FaultLoad, 0}, {"package main; import \"\"; import \"\"", api.FaultLoad, 0}, {"package main; import \"main\"; import \"main\"", api.FaultLoad, 0}, {"package main; import \"a\\tb\"; import \"a\tb\"", api.FaultLoad, 0},
		{"//build x\npackage main; import \"b\"; import \"b\"", api.FaultLoad, 0},
		{"package main", 0, 0}, {"package main\n", 0, 0}, {"// x\n\npackage main // main\n", 0, 0}, {"//build a\npackage main", 0, 0}, {"//build " + strings.Repeat("!", api.MaxNest-1) + "a\npackage main", 0, 0}, {"// build &\npackage main", 0, 0}, {"\n//build &\npackage main", 0, 0}, {"package main; import \"main\"", 0, 0}, {"package main; import \"\"; import \"B\"; import \"b\"; import \"b/c.gc\"; import \" b\"; import \"?\"", 0, 0},
		{"package main; var x = 1; var x = \"\"; func f() { y }", 0, 0},
	} {
		want := api.Fault{Code: x.code, Path: "main/a.gc", At: x.at}
		if x.code == 0 {
			loaded(t, files("main/a.gc", x.text))
			continue
		}
		rejected(t, files("main/a.gc", x.text), want)
		// Beside files that are right, whether they stand ahead or behind, the fault is the same.
		rejected(t, files("z/z.gc", "package z", "main/a.gc", x.text, "a/a.gc", "package a"), want)
	}
	loaded(t, files("b/a.gc", "package b; import \"c\"", "b/b.gc", "package b; import \"c\""))
}

// Of files with faults of two kinds the first kind is told, of two of one kind that of the least path, wherever they stand in the list.
func TestFirstFault(t *testing.T) {
	kinds := []struct {
		text  string
		fault api.Fault
	}{
		{"package main; }", api.Fault{Code: api.FaultSyntax, At: 14}},
		{"//build (\npackage main", api.Fault{Code: api.FaultTags}},
		{"package x", api.Fault{Code: api.FaultLoad}},
	}
	for i, a := range kinds {
		for k, b := range kinds {
			want := a.fault
			want.Path = "main/a.gc"
			if k < i {
				want = b.fault
				want.Path = "main/b.gc"
			}
			for _, l := range orders(files("main/a.gc", a.text, "main/b.gc", b.text, "main/c.gc", a.text)) {
				rejected(t, l, want)
			}
			for _, l := range orders(files("main/a.gc", a.text, "main/b.gc", b.text, "main/c.go", "package main")) {
				rejected(t, l, api.Fault{Code: api.FaultPath, Path: "main/c.go"})
			}
			for _, l := range orders(files("main/a.gc", a.text, "main/b.gc", b.text, "main/b.gc", "package main")) {
				rejected(t, l, api.Fault{Code: api.FaultPath, Path: "main/b.gc"})
			}
		}
	}
	for _, x := range []struct {
		l    []api.File
		want api.Fault
	}{
		// The four kinds of a text are one kind: the file's place tells.
		{files("main/b.gc", "\xff", "main/a.gc", "x"), api.Fault{Code: api.FaultSyntax, Path: "main/a.gc"}},
		{files("main/b.gc", "#", "main/a.gc", "package main; var"), api.Fault{Code: api.FaultSyntax, Path: "main/a.gc", At: 17}},
		{files("main/a.gc", "#", "main/b.gc", "\xff"), api.Fault{Code: api.FaultScan, Path: "main/a.gc"}},
		// Too many tags are told behind each line that is no rule, and ahead of a wrong package.
		{files("a/a.gc", "//build a && b && c && d && e && f && g && h && i && j && k\npackage a", "b/b.gc", "//build )\npackage b"), api.Fault{Code: api.FaultTags, Path: "b/b.gc"}},
		{files("a/a.gc", "package x", "b/b.gc", "//build a && b && c && d && e && f && g && h && i && j && k\npackage b"), api.Fault{Code: api.FaultTags}},
		// Two that are twice, and one that is none and twice.
		{files("b/b.gc", "", "b/b.gc", "", "a/a.gc", "", "a/a.gc", ""), api.Fault{Code: api.FaultPath, Path: "a/a.gc"}},
		{files("b/b.gc", "", "b/b.gc", "", "?", "", "?", ""), api.Fault{Code: api.FaultPath, Path: "?"}},
		{files("", "", "", ""), api.Fault{Code: api.FaultPath}},
		// Paths are compared as bytes: `/` stands ahead of digits and letters, `_` ahead of small letters.
		{files("a1/a.gc", "package x", "a/z.gc", "package x"), api.Fault{Code: api.FaultLoad, Path: "a/z.gc"}},
		{files("a/aa.gc", "package x", "a/a_.gc", "package x", "a/b.gc", "package x"), api.Fault{Code: api.FaultLoad, Path: "a/a_.gc"}},
		{files("a/a.gc", "package x", "a/a0.gc", "package x"), api.Fault{Code: api.FaultLoad, Path: "a/a.gc"}},
	} {
		for _, l := range orders(x.l) {
			rejected(t, l, x.want)
		}
	}
}

// What a module tells of its files.
func TestFiles(t *testing.T) {
	l := files("main/b.gc", "package main\nvar x = f(1)\n", "main/a.gc", "//build b && !a || b\npackage main", "b/x.gc", "//build c\npackage b; import \"c\"", "b/a_1.gc", "// c\npackage b", "b/a.gc", "//build true\npackage b", "b1/a.gc", "package b1")
	m := loaded(t, l)
	if got := strings.Join(m.Tags(), " "); got != "a b c" {
		t.Errorf("P7.2: Tags is %s", got)
	}
	if got := strings.Join(m.Paths(), " "); got != "b/a.gc b/a_1.gc b/x.gc b1/a.gc main/a.gc main/b.gc" {
		t.Errorf("P7.2: Paths is %s", got)
	}
	rules := map[string]string{"main/a.gc": "b && !a || b", "b/x.gc": "c"}
	for _, f := range l {
		want, _ := parse.File(f.Text)
		n, there := m.Tree(f.Path)
		text, known := m.Text(f.Path)
		if !there || !known || nodes(n) != nodes(want) || text != f.Text {
			t.Errorf("P7.2: %s is %s %v, %q %v", f.Path, nodes(n), there, text, known)
		}
		rule := rules[f.Path]
		if rule == "" {
			rule = "true"
		}
		if r := m.Rule(f.Path); r == nil || r.Text() != rule {
			t.Errorf("P7.2: the rule of %s is %s, want %s", f.Path, r.Text(), rule)
		}
	}
	for _, path := range []string{"", "main", "main/", "main/c.gc", "a/a.gc", "main/a.gc ", "main/a.g", "zz/z.gc", "b/a", "?"} {
		noFile(t, "P7.2", m, path)
	}
	empty := loaded(t, nil)
	if len(empty.Tags())+len(empty.Paths()) != 0 {
		t.Errorf("P7.2: of no files Tags is %q, Paths %q", empty.Tags(), empty.Paths())
	}
	noFile(t, "P7.2", empty, "main/a.gc")
}

// noFile wants a module to have no file of the path.
func noFile(t *testing.T, what string, m *module.Module, path string) {
	t.Helper()
	n, there := m.Tree(path)
	text, known := m.Text(path)
	if there || known || text != "" || nodes(n) != nodes(api.Node{}) || m.Rule(path) != nil {
		t.Errorf("%s: of %q there is %s %v, %q %v, %v", what, path, nodes(n), there, text, known, m.Rule(path))
	}
}
