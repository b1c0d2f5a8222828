package check

import (
	"recast/api"
	"recast/methods"
)

// asked is a question about a declared type or a pointer to one: what a name is in it, or whether it may be given to
// the declared type of a name. Its answer is kept, as great types would have to be gone through again and again.
type asked struct {
	of      string
	pointer bool
	name    string
}

// about is a question about a type; false, if that is no declared type and no pointer to one.
func about(t api.Type, name string) (asked, bool) {
	pointer := t.Kind == api.TypePointer
	if pointer {
		t = t.Kids[0]
	}
	return asked{t.Name, pointer, name}, t.Kind == api.TypeNamed
}

// lookedUp is what a name is in a type, if it is something.
type lookedUp struct {
	methods.Found
	ok bool
}

// lookUp is what a name is in a type; false, if it is nothing.
func (c *checker) lookUp(t api.Type, name string) (methods.Found, bool) {
	q, kept := about(t, name)
	if x, known := c.members[q]; kept && known {
		return x.Found, x.ok
	}
	f, ok := methods.Lookup(c.World, t, name)
	if kept {
		c.members[q] = lookedUp{f, ok}
	}
	return f, ok
}

// assignable is what an answer says.
type assignable struct{ yes bool }

// mayGive tells whether a value may be given to what is of a type.
func (c *checker) mayGive(x operand, t api.Type) bool {
	q, kept := about(x.of, t.Name)
	kept = kept && t.Kind == api.TypeNamed
	if a, known := c.gives[q]; kept && known {
		return a.yes
	}
	yes := methods.Assignable(c.World, x.of, t, x.constant)
	if kept {
		c.gives[q] = assignable{yes}
	}
	return yes
}
