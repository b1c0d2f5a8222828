package check

import (
	"slices"

	"recast/api"
)

// ends tells whether nothing comes behind the statements of a list.
func (c *checker) ends(list []api.Node) bool {
	return len(list) > 0 && c.endsIn(list[len(list)-1])
}

// endsIn tells whether nothing comes behind a statement.
func (c *checker) endsIn(n api.Node) bool {
	switch n.Kind {
	case api.NodeReturn:
		return true
	case api.NodeExprStmt:
		call := bare(n.Kids[0])
		return call.Kind == api.NodeCall && c.builtin(call.Kids[0]) == "panic"
	case api.NodeBlock:
		return c.ends(n.Kids)
	case api.NodeIf:
		return c.endsIn(n.Kids[2]) && c.endsIn(n.Kids[3])
	case api.NodeFor:
		return n.Kids[1].Kind == api.NodeNone && !breaks(n.Kids[3])
	case api.NodeSwitch:
		return slices.ContainsFunc(n.Kids[1:], isDefault) && c.allEnd(n.Kids[1:])
	case api.NodeSelect:
		return c.allEnd(n.Kids)
	}
	return false
}

// isDefault tells whether a Case is the one of all other values.
func isDefault(n api.Node) bool { return n.Kids[0].Kind == api.NodeNone }

// allEnd tells whether nothing comes behind any of the Cases or Comms.
func (c *checker) allEnd(cases []api.Node) bool {
	return !slices.ContainsFunc(cases, func(n api.Node) bool { return !c.ends(n.Kids[1:]) || breaks(n.Kids[1:]...) })
}

// breaks tells whether a break in statements means what is around them.
func breaks(list ...api.Node) bool {
	return slices.ContainsFunc(list, func(n api.Node) bool {
		switch n.Kind {
		case api.NodeBreak:
			return true
		case api.NodeBlock, api.NodeIf:
			return breaks(n.Kids...)
		}
		return false
	})
}
