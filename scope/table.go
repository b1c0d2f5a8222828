package scope

// wrong is what binding gives up with: why a module is not taken.
type wrong string

// table is names, and the numbers of the objects that they stand for.
type table map[string]int

// add puts a name in, which may not stand there yet.
func (t table) add(name string, number int) {
	if t.has(name) {
		panic(wrong("a name is declared twice in one scope"))
	}
	t[name] = number
}

// has tells whether a name stands in the table itself.
func (t table) has(name string) bool {
	_, stands := t[name]
	return stands
}

// scope is a part of the text, with the names that stand for objects there so far: one is put in where its object
// begins, so that what stands ahead of that place does not see it.
type scope struct {
	table
	outer *scope
}

// ofUniverse is the number of all that the universe has.
const ofUniverse = -1

// find is the number of what a name stands for.
func (s *scope) find(name string) int {
	for ; s != nil; s = s.outer {
		if s.has(name) {
			return s.table[name]
		}
	}
	if Universe(name) == 0 {
		panic(wrong("an identifier stands for nothing"))
	}
	return ofUniverse
}
