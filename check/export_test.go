package check

import (
	"recast/module"
)

// Reason is why a configuration is not right, as checking gave up with it; empty, if it is right. other is what else
// it ended with: nothing, if checking knows what it does.
func Reason(m *module.Module, set []string) (why string, other any) {
	packages, fault := m.Config(set)
	if fault.Code != 0 {
		return "no configuration", nil
	}
	defer func() {
		x := recover()
		if w, gaveUp := x.(wrong); gaveUp {
			why = string(w)
		} else {
			other = x
		}
	}()
	checked(m, packages)
	return "", nil
}

// Begin is the order in which variables begin, of all that need one another as needs says.
func Begin(needs map[int][]int, isVar func(int) bool) []int { return begin(needs, isVar) }
