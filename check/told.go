package check

import (
	"cmp"
	"slices"

	"recast/api"
	"recast/types"
)

// told is what checking has found out, in the order in which it is answered, each type in memory of its own.
func (c *checker) told(order []int) Result {
	r := Result{Info: api.Info{Objects: c.objects, Uses: c.uses, Types: c.typed}, Named: c.world, Order: order}
	for i := range r.Info.Objects {
		own(&r.Info.Objects[i].Type)
	}
	for i := range r.Info.Types {
		own(&r.Info.Types[i].Type)
	}
	for i := range r.Named {
		own(&r.Named[i].Under)
		for j := range r.Named[i].Methods {
			own(&r.Named[i].Methods[j].Sig)
		}
	}
	slices.SortStableFunc(r.Info.Uses, func(x, y api.Use) int {
		return cmp.Or(cmp.Compare(x.Path, y.Path), cmp.Compare(x.At, y.At))
	})
	slices.SortStableFunc(r.Info.Types, func(x, y api.Typed) int {
		return cmp.Or(cmp.Compare(x.Path, y.Path), cmp.Compare(x.From, y.From), cmp.Compare(y.To, x.To))
	})
	return r
}

// own gives a type memory of its own.
func own(t *api.Type) { *t = types.Subst(*t, nil) }
