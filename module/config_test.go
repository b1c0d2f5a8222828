package module_test

import (
	"testing"

	"recast/api"
	"recast/module"
)

// config wants a configuration to have the packages.
func config(t *testing.T, m *module.Module, set []string, want string) {
	t.Helper()
	row, fault := m.Config(set)
	if fault != (api.Fault{}) || shown(row) != want {
		t.Errorf("P7.3: Config(%q) is %s, %v\nwant %s", set, shown(row), fault, want)
	}
}

// noConfig wants a configuration to be rejected.
func noConfig(t *testing.T, what string, m *module.Module, set []string) {
	t.Helper()
	row, fault := m.Config(set)
	if len(row) != 0 || fault != (api.Fault{Code: api.FaultLoad}) {
		t.Errorf("%s: Config(%q) is %s, %v", what, set, shown(row), fault)
	}
}

func TestExamples(t *testing.T) {
	config(t, loaded(t, files("main/a.gc", "package main")), nil, "main [main/a.gc] []")
	m := loaded(t, files("main/a.gc", "package main; import \"b\"", "b/x.gc", "//build t\npackage b"))
	noConfig(t, "P7.3", m, nil)
	config(t, m, []string{"t"}, "b [b/x.gc] []; main [main/a.gc] [b]")
}

// A configuration is a set: the order of its tags, and those that no rule has, are all the same.
func TestSetOfTags(t *testing.T) {
	m := loaded(t, files("main/a.gc", "package main", "main/b.gc", "//build t && u\npackage main", "a/a.gc", "//build !t\npackage a"))
	for _, set := range [][]string{nil, {}, {"u"}, {"u", "x", "u"}, {"true"}, {""}, {"T"}, {"!t"}, {"t && u"}, {"t u"}} {
		config(t, m, set, "a [a/a.gc] []; main [main/a.gc] []")
	}
	for _, set := range [][]string{{"t"}, {"t", "t"}, {"z", "t", "?"}} {
		config(t, m, set, "main [main/a.gc] []")
	}
	for _, set := range [][]string{{"t", "u"}, {"u", "t"}, {"u", "x", "t", "u", "t"}} {
		config(t, m, set, "main [main/a.gc main/b.gc] []")
	}
}

func TestOrder(t *testing.T) {
	m := loaded(t, files(
		"main/b.gc", "package main; import \"b\"", "main/a.gc", "package main; import \"c\"; import \"b\"",
		"b/x.gc", "//build t\npackage b", "b/y.gc", "//build !t && u\npackage b; import \"c\"",
		"c/x.gc", "package c", "a/x.gc", "package a; import \"b\"", "z/z.gc", "package z",
	))
	config(t, m, []string{"t"}, "b [b/x.gc] []; a [a/x.gc] [b]; c [c/x.gc] []; main [main/a.gc main/b.gc] [b c]; z [z/z.gc] []")
	config(t, m, []string{"u", "t"}, "b [b/x.gc] []; a [a/x.gc] [b]; c [c/x.gc] []; main [main/a.gc main/b.gc] [b c]; z [z/z.gc] []")
	config(t, m, []string{"u"}, "c [c/x.gc] []; b [b/y.gc] [c]; a [a/x.gc] [b]; main [main/a.gc main/b.gc] [b c]; z [z/z.gc] []")
	noConfig(t, "P7.3", m, nil)
	// A package that became free stands ahead of one of a greater name that was free before; main is one as others.
	config(t, loaded(t, files("main/m.gc", "package main", "a/a.gc", "package a; import \"main\"; import \"d\"", "d/d.gc", "package d; import \"x\"", "x/x.gc", "package x", "y/y.gc", "package y", "n/n.gc", "package n")),
		nil, "main [main/m.gc] []; n [n/n.gc] []; x [x/x.gc] []; d [d/d.gc] [x]; a [a/a.gc] [d main]; y [y/y.gc] []")
	// Names are compared as bytes, digits ahead of letters.
	config(t, loaded(t, files("main/m.gc", "package main", "a/a.gc", "package a", "a1/a.gc", "package a1", "aa/a.gc", "package aa", "a10/a.gc", "package a10", "a2/a.gc", "package a2")),
		nil, "a [a/a.gc] []; a1 [a1/a.gc] []; a10 [a10/a.gc] []; a2 [a2/a.gc] []; aa [aa/a.gc] []; main [main/m.gc] []")
	// A chain against the order of the names.
	config(t, loaded(t, files("main/m.gc", "package main; import \"a\"", "a/a.gc", "package a; import \"b\"", "b/b.gc", "package b; import \"c\"", "c/c.gc", "package c; import \"d\"", "d/d.gc", "package d")),
		nil, "d [d/d.gc] []; c [c/c.gc] [d]; b [b/b.gc] [c]; a [a/a.gc] [b]; main [main/m.gc] [a]")
}

// What a file imports that is not in the configuration does not count; what one imports that is in it, does.
func TestFilesOutside(t *testing.T) {
	m := loaded(t, files("main/a.gc", "package main", "main/b.gc", "//build own\npackage main; import \"main\"", "main/c.gc", "//build lost\npackage main; import \"lost\"",
		"a/a.gc", "//build ab\npackage a; import \"b\"", "b/b.gc", "//build ab || ba\npackage b", "b/c.gc", "//build ba\npackage b; import \"a\"", "a/d.gc", "//build ba\npackage a"))
	config(t, m, nil, "main [main/a.gc] []")
	config(t, m, []string{"ab"}, "b [b/b.gc] []; a [a/a.gc] [b]; main [main/a.gc] []")
	config(t, m, []string{"ba"}, "a [a/d.gc] []; b [b/b.gc b/c.gc] [a]; main [main/a.gc] []")
	for _, set := range [][]string{{"own"}, {"lost"}, {"ab", "ba"}, {"ab", "own"}, {"ba", "lost"}} {
		noConfig(t, "P7.3", m, set)
	}
}

// A module that loads may have no packages that could run.
func TestWrongConfigs(t *testing.T) {
	for what, l := range map[string][]api.File{
		"no files":             nil,
		"no main":              files("a/a.gc", "package a"),
		"main under a tag":     files("main/a.gc", "//build t\npackage main", "a/a.gc", "package a"),
		"main1":                files("main1/a.gc", "package main1"),
		"its own":              files("main/a.gc", "package main; import \"main\""),
		"its own, elsewhere":   files("main/a.gc", "package main", "a/a.gc", "package a; import \"a\""),
		"none":                 files("main/a.gc", "package main; import \"a\""),
		"none, elsewhere":      files("main/a.gc", "package main", "a/a.gc", "package a; import \"b\""),
		"one under a tag":      files("main/a.gc", "package main; import \"a\"", "a/a.gc", "//build t\npackage a"),
		"empty":                files("main/a.gc", "package main; import \"\""),
		"a path":               files("main/a.gc", "package main; import \"a/a.gc\"", "a/a.gc", "package a"),
		"a path as told":       files("main/a.gc", "package main; import \"a/a\"", "a/a.gc", "package a"),
		"another case":         files("main/a.gc", "package main; import \"A\"", "a/a.gc", "package a"),
		"blank":                files("main/a.gc", "package main; import \" a\"", "a/a.gc", "package a"),
		"two":                  files("main/a.gc", "package main; import \"a\"", "a/a.gc", "package a; import \"main\""),
		"two beside main":      files("main/a.gc", "package main", "a/a.gc", "package a; import \"b\"", "b/a.gc", "package b; import \"a\""),
		"three":                files("main/a.gc", "package main", "a/a.gc", "package a; import \"b\"", "b/a.gc", "package b; import \"c\"", "c/a.gc", "package c; import \"a\""),
		"two that main needs":  files("main/a.gc", "package main; import \"a\"", "a/a.gc", "package a; import \"b\"", "b/a.gc", "package b; import \"a\""),
		"two by several files": files("main/a.gc", "package main", "a/a.gc", "package a", "a/b.gc", "package a; import \"b\"", "b/a.gc", "package b; import \"a\"", "b/b.gc", "package b"),
	} {
		noConfig(t, "P7.3: "+what, loaded(t, l), nil)
		noConfig(t, "P7.3: "+what, loaded(t, l), []string{"other"})
	}
}

// What a package imports is told of all its files in the configuration, rising, each once.
func TestImports(t *testing.T) {
	m := loaded(t, files("main/c.gc", "package main; import \"z\"; import \"a\"", "main/a.gc", "package main; import \"m\"; import \"a\"; import \"a1\"", "main/b.gc", "//build t\npackage main; import \"z\"; import \"b\"",
		"z/z.gc", "package z", "a/a.gc", "package a", "m/m.gc", "package m", "b/b.gc", "package b", "a1/a.gc", "package a1"))
	config(t, m, nil, "a [a/a.gc] []; a1 [a1/a.gc] []; b [b/b.gc] []; m [m/m.gc] []; z [z/z.gc] []; main [main/a.gc main/c.gc] [a a1 m z]")
	config(t, m, []string{"t"}, "a [a/a.gc] []; a1 [a1/a.gc] []; b [b/b.gc] []; m [m/m.gc] []; z [z/z.gc] []; main [main/a.gc main/b.gc main/c.gc] [a a1 b m z]")
	// What a string says is imported, however it is written.
	config(t, loaded(t, files("main/c.gc", "package main; import /* a */ \"a\" // z", "a/a.gc", "package a")), nil, "a [a/a.gc] []; main [main/c.gc] [a]")
}

func TestNilAndZero(t *testing.T) {
	var none *module.Module
	for _, m := range []*module.Module{none, {}} {
		noFile(t, "P7.4", m, "main/a.gc")
		noFile(t, "P7.4", m, "")
		if len(m.Tags())+len(m.Paths()) != 0 {
			t.Errorf("P7.4: Tags is %q, Paths %q", m.Tags(), m.Paths())
		}
		noConfig(t, "P7.4", m, nil)
		noConfig(t, "P7.4", m, []string{"t"})
	}
}
