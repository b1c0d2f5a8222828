package check

import (
	"cmp"
	"slices"

	"recast/api"
	"recast/module"
)

// byPlace is which of two uses stands ahead of the other.
func byPlace(x, y api.Use) int {
	return cmp.Or(cmp.Compare(x.Path, y.Path), cmp.Compare(x.At, y.At))
}

// order is the variables of packages, in the order in which they begin. All uses must be known.
func (c *checker) order(packages []module.Package) []int {
	slices.SortStableFunc(c.uses, byPlace)
	var out []int
	for _, p := range packages {
		needs := map[int][]int{}
		vars := 0
		for number, o := range c.objects {
			if o.Pkg != p.Name || !c.counts(number) {
				continue
			}
			needs[number] = c.needsOf(number)
			if o.Kind == api.ObjVar {
				vars++
			}
		}
		begun := begin(needs, func(number int) bool { return c.objects[number].Kind == api.ObjVar })
		must(len(begun) == vars, "variables of a package need one another")
		out = append(out, begun...)
	}
	return out
}

// counts tells whether an object is a variable, function or method of a package.
func (c *checker) counts(number int) bool {
	o := c.objects[number]
	return o.Kind == api.ObjVar && o.Level == 0 || o.Kind == api.ObjFunc || o.Kind == api.ObjMethod
}

// needsOf is the variables, functions and methods of its package that stand in a variable's expression, in a
// function or in a method.
func (c *checker) needsOf(number int) []int {
	d := c.decls[number]
	part := d.node
	if part.Kind == api.NodeVar {
		part = part.Kids[2]
	}
	var out []int
	first, _ := slices.BinarySearchFunc(c.uses, api.Use{Path: d.path, At: part.From}, byPlace)
	for _, u := range c.uses[first:] {
		if u.Path != d.path || u.At >= part.To {
			break
		}
		if u.Obj != ofUniverse && c.counts(u.Obj) && c.objects[u.Obj].Pkg == d.pkg {
			out = append(out, u.Obj)
		}
	}
	return out
}
