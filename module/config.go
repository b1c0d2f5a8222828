package module

import (
	"maps"
	"slices"
)

// mainName is the package that a module begins to run in.
const mainName = "main"

// packages is the packages of a configuration by their names.
func (m *Module) packages(set []string) map[string]Package {
	packages := map[string]Package{}
	for _, f := range m.all() {
		if !f.rule.Holds(set) {
			continue
		}
		p := packages[f.dir]
		p.Name = f.dir
		p.Files = append(p.Files, f.Path)
		p.Imports = eachOnce(append(p.Imports, f.imports...))
		packages[f.dir] = p
	}
	return packages
}

// inOrder is the packages, each behind those that it imports; false, if some can't stand so. (One never can that
// imports itself, what is no package, or others in a circle.)
func inOrder(packages map[string]Package) ([]Package, bool) {
	var row []Package
	placed := map[string]struct{}{}
	ready := func(name string) bool {
		return !slices.ContainsFunc(packages[name].Imports, func(path string) bool {
			_, stands := placed[path]
			return !stands
		})
	}
	left := slices.Sorted(maps.Keys(packages))
	for len(left) > 0 {
		next := slices.IndexFunc(left, ready)
		if next < 0 {
			return nil, false
		}
		placed[left[next]] = struct{}{}
		row = append(row, packages[left[next]])
		left = slices.Delete(left, next, next+1)
	}
	return row, true
}
