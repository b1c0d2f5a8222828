package module

import (
	"slices"
	"strings"

	"recast/api"
	"recast/parse"
	"recast/scan"
	"recast/tags"
	"recast/tree"
)

// ending is what a path ends with.
const ending = ".gc"

// file is one of a module, and what was read of it.
type file struct {
	api.File
	dir     string
	tree    api.Node
	rule    *tags.Rule
	imports []string // rising
}

// tooMuch tells whether there are more files, or bytes in them, than a module may have.
func tooMuch(files []api.File) bool {
	bytes := 0
	for _, f := range files {
		bytes += len(f.Text)
	}
	return len(files) > api.MaxFiles || bytes > api.MaxModule
}

// sorted is the files, of which nothing is read yet, by rising paths.
func sorted(files []api.File) []file {
	var out []file
	for _, f := range files {
		out = append(out, file{File: f})
	}
	slices.SortFunc(out, func(a, b file) int { return strings.Compare(a.Path, b.Path) })
	return out
}

// first is the fault that a step tells of the first file of which it tells one, with that file's path.
func (m *Module) first(step func(f *file) api.Fault) api.Fault {
	for i := range m.files {
		f := &m.files[i]
		if fault := step(f); fault.Code != 0 {
			fault.Path = f.Path
			return fault
		}
	}
	return api.Fault{}
}

// readPaths reads the files' paths.
func (m *Module) readPaths() api.Fault {
	ahead := ""
	return m.first(func(f *file) api.Fault {
		dir, ok := dirOf(f.Path)
		// Those of one path stand side by side, as the files are sorted.
		if !ok || f.Path == ahead {
			return api.Fault{Code: api.FaultPath}
		}
		f.dir, ahead = dir, f.Path
		return api.Fault{}
	})
}

// readTrees reads the files' texts.
func (m *Module) readTrees() api.Fault {
	return m.first(func(f *file) (fault api.Fault) {
		f.tree, fault = parse.File(f.Text)
		return fault
	})
}

// readRules reads the files' first lines.
func (m *Module) readRules() api.Fault {
	fault := m.first(func(f *file) api.Fault {
		rule, err := tags.Read(f.Text)
		if err != api.OK {
			return api.Fault{Code: api.FaultTags}
		}
		f.rule = rule
		return api.Fault{}
	})
	if fault.Code == 0 && len(m.Tags()) > api.MaxTags {
		return api.Fault{Code: api.FaultTags}
	}
	return fault
}

// readHeads reads the files' package names and imports.
func (m *Module) readHeads() api.Fault {
	return m.first(func(f *file) api.Fault {
		var paths []string
		for _, n := range tree.Kids(f.tree, api.NodeImport) {
			paths = append(paths, n.Text)
		}
		f.imports = eachOnce(paths)
		if packageName(f.tree) != f.dir || len(f.imports) < len(paths) {
			return api.Fault{Code: api.FaultLoad}
		}
		return api.Fault{}
	})
}

// packageName is the name that a file's tree begins with.
func packageName(n api.Node) string { return n.Kids[0].Text }

// dirOf is the DIR of a path; false, if it is no path.
func dirOf(path string) (string, bool) {
	dir, rest, _ := strings.Cut(path, "/")
	name, ended := strings.CutSuffix(rest, ending)
	if !ended || !scan.Ident(dir) || !scan.Ident(name) {
		return "", false
	}
	// Of an Ident's bytes these are the ones that are left out, and its first one is no digit.
	if strings.ContainsFunc(dir+name, capital) || strings.Contains(dir, "_") || name[0] == '_' {
		return "", false
	}
	return dir, true
}

// capital tells whether c is one of the letters A to Z.
func capital(c rune) bool { return 'A' <= c && c <= 'Z' }
