package uses

import (
	"cmp"
	"iter"
	"maps"
	"slices"
	"strings"

	"recast/api"
)

// placeOf is where a use stands.
func placeOf(u api.Use) Place { return Place{u.Path, u.At} }

// compare says which of two places stands ahead.
func compare(p, q Place) int {
	return cmp.Or(strings.Compare(p.Path, q.Path), cmp.Compare(p.At, q.At))
}

// table is places in no order.
type table map[Place]struct{}

// size is how many there are.
func (t table) size() int { return len(t) }

// each is all of them.
func (t table) each() iter.Seq[Place] { return maps.Keys(t) }

// sorted is all of them, by Path and At.
func (t table) sorted() []Place { return slices.SortedFunc(t.each(), compare) }

// set is places that belong together.
type set struct {
	table
	barred bool // one of them stands, in some configuration, for something of the universe or for a package
}

// newSet is a set of these places.
func newSet(places ...Place) *set {
	s := &set{table: table{}}
	s.add(places...)
	return s
}

// add puts places in.
func (s *set) add(places ...Place) {
	for _, p := range places {
		s.table[p] = struct{}{}
	}
}
