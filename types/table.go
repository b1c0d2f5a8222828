package types

import "recast/api"

// table is declared types by their names.
type table map[string]api.Named

// add puts a declared type in; false, if there is one of its name.
func (t table) add(n api.Named) bool {
	if _, twice := t[n.Name]; twice {
		return false
	}
	t[n.Name] = freshNamed(n)
	return true
}

// find is the declared type of a name, in the table's own memory.
func (t table) find(name string) (api.Named, bool) {
	n, found := t[name]
	return n, found
}

// under is what a type is underneath, in the table's own memory or the type's.
func (t table) under(x api.Type) api.Type {
	for x.Kind == api.TypeNamed {
		n, found := t.find(x.Name)
		if !found {
			break
		}
		x = n.Under
	}
	return x
}

// held is the names of the declared types of the table that a type is, or holds through structs alone.
func (t table) held(x api.Type) []string {
	var names []string
	walk(func(x *api.Type) ([]*api.Type, bool) {
		switch x.Kind {
		case api.TypeNamed:
			if _, found := t.find(x.Name); found {
				names = append(names, x.Name)
			}
		case api.TypeStruct:
			return kids(x), true
		}
		return nil, true
	}, &x)
	return names
}

// circular tells whether some declared type is underneath itself, or holds itself.
func (t table) circular() bool {
	waits := map[string]int{}
	holders := map[string][]string{}
	var free []string
	for name, n := range t {
		for _, held := range t.held(n.Under) {
			waits[name]++
			holders[held] = append(holders[held], name)
		}
		if waits[name] == 0 {
			free = append(free, name)
		}
	}
	// One is taken away when all that it holds are; none of a circle ever is.
	taken := 0
	walk(func(name string) ([]string, bool) {
		taken++
		var freed []string
		for _, holder := range holders[name] {
			waits[holder]--
			if waits[holder] == 0 {
				freed = append(freed, holder)
			}
		}
		return freed, true
	}, free...)
	return taken < len(t)
}

// closed tells whether all declared types that stand anywhere in those of the table are there.
func (t table) closed() bool {
	for _, n := range t {
		if !t.knows(&n.Under) {
			return false
		}
		for i := range n.Methods {
			if !t.knows(&n.Methods[i].Sig) {
				return false
			}
		}
	}
	return true
}

// knows tells whether all declared types in x are there.
func (t table) knows(x *api.Type) bool {
	return walk(func(x *api.Type) ([]*api.Type, bool) {
		_, found := t.find(x.Name)
		return kids(x), found || x.Kind != api.TypeNamed
	}, x)
}
