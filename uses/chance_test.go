package uses_test

import (
	"fmt"
	"maps"
	"math/rand/v2"
	"runtime/debug"
	"slices"
	"strings"
	"sync/atomic"
	"testing"

	"recast/api"
	"recast/check"
	"recast/methods"
	"recast/module"
	"recast/tags"
	"recast/types"
	"recast/uses"
)

// TestMain lets memory be gathered up seldom: modules made by chance are small and many, and doing so costs more than
// all else that the tests do.
func TestMain(m *testing.M) {
	debug.SetGCPercent(1000)
	m.Run()
}

// chance makes modules in which types have members of few names, so that many belong together.
type chance struct{ *rand.Rand }

// of is one of some texts.
func (c chance) of(l ...string) string { return l[c.IntN(len(l))] }

// name is a member's name; all are seen by other packages.
func (c chance) name() string { return c.of("M", "N", "O") }

// list is up to n of what a function makes, with a text between.
func (c chance) list(n int, between string, one func() string) string {
	var out []string
	for range c.IntN(n + 1) {
		out = append(out, one())
	}
	return strings.Join(out, between)
}

// under is what a type is declared as.
func (c chance) under(declared func() string) string {
	switch c.IntN(8) {
	case 0:
		return c.of("int", "[]int", "any", "func()")
	case 1:
		return declared()
	case 2:
		return "*" + declared()
	case 3, 4:
		return "interface {\n" + c.list(3, "\n", func() string {
			return c.of(declared(), c.name()+c.sig("", "", declared), c.name()+c.sig("", "", declared))
		}) + "\n}"
	}
	return "struct {\n" + c.list(3, "\n", func() string {
		return c.of(declared(), declared(), c.name()+" "+c.of("int", "func()", "any", declared()))
	}) + "\n}"
}

// sig is parameters and results, most often none.
func (c chance) sig(param, body string, declared func() string) string {
	switch c.IntN(9) {
	case 0:
		return "(" + param + c.of("int", declared(), "any", "[]"+declared(), "interface {}", "func("+declared()+") "+declared()) + ") " + body
	case 1:
		return "() " + c.of("any", declared()) + " " + body
	}
	return "() " + body
}

// part is a file of a module that grows: what it begins with, and which types may be declared there, or stand there.
type part struct {
	path, begin string
	own, others string
	decls       []string
}

// parts is a module before it has grown.
func parts() []part {
	inB, inMain := "P Q R S", "A B C D"
	all := inMain + " X Y Z b.P b.Q b.R b.S"
	main := "package main\nimport \"b\"\nvar "
	return []part{
		{"b/b.gc", "package b", inB, inB, []string{"type P struct {\n}"}},
		{"main/a.gc", main + "va b.P\nfunc main() {}", inMain, all, nil},
		{"main/t.gc", "//build t\n" + main + "vt b.P", "X Y", all, nil},
		{"main/u.gc", "//build !t\n" + main + "vu b.P", "X Y", all, nil},
		{"main/v.gc", "//build u && !t\n" + main + "vv b.P", "Z", all, nil},
	}
}

// decl is a declaration that may stand in a part.
func (c chance) decl(p part) string {
	declared := func() string { return c.of(strings.Fields(p.others)...) }
	own := c.of(strings.Fields(p.own)...)
	switch c.IntN(8) {
	case 0, 1, 2:
		return "type " + own + " " + c.under(declared)
	case 3, 4, 5:
		return fmt.Sprintf("func (r %s%s) %s%s", c.of("", "*"), own, c.name(), c.sig("p ", "{ panic(1) }", declared))
	}
	return fmt.Sprintf("func f%d(x %s, y %s) {\n%s%s\n}", c.IntN(1000), declared(), declared(), c.of("x.", "y.", "_ = x.", "_ = y.", declared()+"{}.")+c.name(), c.of("", "()", "."+c.name(), "."+c.name()+"()"))
}

// written is the files of parts.
func written(parts []part) []api.File {
	var out []api.File
	for _, p := range parts {
		out = append(out, api.File{Path: p.path, Text: p.begin + "\n" + strings.Join(p.decls, "\n")})
	}
	return out
}

// right is a module that is right in all configurations: it grows by what leaves it so.
func (c chance) right(t *testing.T) (*module.Module, []api.File) {
	t.Helper()
	all := parts()
	for range 600 {
		i := c.IntN(len(all))
		before := all[i].decls
		all[i].decls = slices.Clone(before)
		if n := len(before); n > 0 && c.IntN(3) == 0 {
			all[i].decls[c.IntN(n)] = c.decl(all[i])
		} else {
			all[i].decls = append(all[i].decls, c.decl(all[i]))
		}
		if m := loaded(t, written(all)); check.All(m).Code != 0 {
			all[i].decls = before
		}
	}
	return loaded(t, written(all)), written(all)
}

// tries is how many modules are made.
const tries = 24

// eachTry does something with modules made by chance, many at a time.
func eachTry(t *testing.T, begin uint64, do func(t *testing.T, m *module.Module, l []api.File)) {
	t.Run("", func(t *testing.T) {
		for seed := range uint64(tries) {
			t.Run("", func(t *testing.T) {
				t.Parallel()
				m, l := chance{rand.New(rand.NewPCG(begin, seed))}.right(t)
				do(t, m, l)
			})
		}
	})
}

func TestMemberByChance(t *testing.T) {
	var found, none atomic.Int64
	eachTry(t, 14, func(t *testing.T, m *module.Module, l []api.File) {
		for _, set := range tags.Sets(m.Tags()) {
			r, _ := check.Module(m, set)
			for _, n := range r.Named {
				for _, name := range []string{"M", "N", "O", "A", "P", "X"} {
					number, ok := uses.Member(r, n.Name, name)
					want, stands := selected(t, r, l, set, n.Name, name)
					if ok != stands || shownObject(r, number, ok) != want {
						t.Fatalf("P14.2: Member of %s, %s is %s, want %s, with %v in %s", n.Name, name, shownObject(r, number, ok), want, set, l)
					}
					if ok {
						found.Add(1)
					} else {
						none.Add(1)
					}
				}
			}
		}
	})
	if found.Load() < 20*tries || none.Load() < 20*tries {
		t.Errorf("%d were found, %d not: that is not much of a test", found.Load(), none.Load())
	}
}

// selected is the object that a Selector behind a variable of a declared type stands for, by checking the module with
// one more file.
func selected(t *testing.T, r check.Result, l []api.File, set []string, of, name string) (string, bool) {
	t.Helper()
	w, _ := types.New(r.Named)
	f, found := methods.Lookup(w, types.Name(of), name)
	if !found {
		return shownObject(r, 0, false), false
	}
	local := func(t api.Type) string { return strings.ReplaceAll(types.Text(t), "main.", "") }
	text := "package main\nimport \"b\"\nvar probeB b.P\nfunc probe() {\nvar probed " + local(types.Name(of)) + "\n"
	var args []string
	if f.Kind == api.ObjField {
		text += "_ = probed." + name
	} else {
		for i, p := range f.Type.Kids[:f.Type.N] {
			text += fmt.Sprintf("var p%d %s\n", i, local(p))
			args = append(args, fmt.Sprint("p", i))
		}
		text += "probed." + name + "(" + strings.Join(args, ", ") + ")"
	}
	probed := loaded(t, append(slices.Clone(l), api.File{Path: "main/zz.gc", Text: text + "\n}"}))
	after, fault := check.Module(probed, set)
	if fault.Code != 0 {
		t.Fatalf("%v of %s in %s", fault, text, l)
	}
	at := strings.LastIndex(text, "probed.") + len("probed.")
	for _, u := range after.Info.Uses {
		if u.Path == "main/zz.gc" && u.At == at {
			return shownObject(after, u.Obj, true), true
		}
	}
	t.Fatalf("there is no use at %d in %s", at, text)
	return "", false
}

// relationOf is Relation by the words.
func relationOf(r check.Result) []string {
	w, _ := types.New(r.Named)
	var out []string
	for _, n := range r.Named {
		for _, i := range r.Named {
			of, face := types.Name(n.Name), types.Name(i.Name)
			switch {
			case len(methods.Set(w, face)) == 0 || w.Under(face).Kind != api.TypeInterface:
			case methods.Implements(w, of, face):
				out = append(out, n.Name+" "+i.Name)
			case methods.Implements(w, types.Make(api.TypePointer, of), face):
				out = append(out, "*"+n.Name+" "+i.Name)
			}
		}
	}
	slices.Sort(out)
	return out
}

// kinOf is the pairs of kin, by the words.
func kinOf(r check.Result) [][2]int {
	var out [][2]int
	for number, o := range r.Info.Objects {
		if of, _ := uses.Object(r, o.Path, o.At); o.Kind == api.ObjField && of != number {
			out = append(out, [2]int{of, number})
		}
	}
	w, _ := types.New(r.Named)
	for _, line := range relationOf(r) {
		names := strings.Fields(strings.TrimPrefix(line, "*"))
		for _, m := range methods.Set(w, types.Name(names[1])) {
			a, _ := uses.Member(r, names[0], m.Name)
			b, _ := uses.Member(r, names[1], m.Name)
			out = append(out, [2]int{a, b})
		}
	}
	return out
}

// familyOf is a place's Family by the words: places are put in as long as one asks for one that is not there.
func familyOf(all []check.Result, kin []map[int][]int, begin uses.Place) ([]uses.Place, bool) {
	in := map[uses.Place]int{begin: 1}
	ok := false
	for work := []uses.Place{begin}; len(work) > 0; work = work[1:] {
		for i, r := range all {
			for _, u := range r.Info.Uses {
				if u.Path != work[0].Path || u.At != work[0].At {
					continue
				}
				if u.Obj == -1 || r.Info.Objects[u.Obj].Kind == api.ObjPackage {
					return nil, false
				}
				ok = true
				for _, p := range uses.Places(r, kin[i][u.Obj]) {
					if in[p] == 0 {
						in[p] = 1
						work = append(work, p)
					}
				}
			}
		}
	}
	if !ok {
		return nil, false
	}
	return slices.SortedFunc(maps.Keys(in), func(p, q uses.Place) int {
		if p.Path != q.Path {
			return strings.Compare(p.Path, q.Path)
		}
		return p.At - q.At
	}), true
}

// theirs is for each object all that are kin to it, or to those, and itself.
func theirs(r check.Result) map[int][]int {
	kin := map[int][]int{}
	for _, pair := range kinOf(r) {
		kin[pair[0]] = append(kin[pair[0]], pair[1])
		kin[pair[1]] = append(kin[pair[1]], pair[0])
	}
	out := map[int][]int{}
	for number := range r.Info.Objects {
		l := []int{number}
		for i := 0; i < len(l); i++ {
			for _, other := range kin[l[i]] {
				if !slices.Contains(l, other) {
					l = append(l, other)
				}
			}
		}
		out[number] = l
	}
	return out
}

func TestFamilyByChance(t *testing.T) {
	var great, lines atomic.Int64
	eachTry(t, 41, func(t *testing.T, m *module.Module, l []api.File) {
		var all []check.Result
		var kin []map[int][]int
		wanted := map[uses.Place]string{{"main/a.gc", -1}: "", {"main/a.gc", 0}: "", {"main/a.gc", 1}: ""}
		for _, set := range tags.Sets(m.Tags()) {
			r, _ := check.Module(m, set)
			all, kin = append(all, r), append(kin, theirs(r))
			if got, want := uses.Relation(r), relationOf(r); !slices.Equal(got, want) {
				t.Errorf("P14.4: Relation is %q, want %q, with %v in %s", got, want, set, l)
			}
			lines.Add(int64(len(relationOf(r))))
			for _, u := range r.Info.Uses {
				wanted[uses.Place{Path: u.Path, At: u.At}] = ""
			}
		}
		for p := range wanted {
			if wanted[p] == "" {
				family, ok := familyOf(all, kin, p)
				wanted[p] = fmt.Sprint(family, ok)
				for _, q := range family { // P14.5
					wanted[q] = wanted[p]
				}
			}
			got, ok := uses.Family(m, p.Path, p.At)
			if fmt.Sprint(got, ok) != wanted[p] {
				t.Fatalf("P14.3: the Family at %v is %v, %v, want %v in %s", p, got, ok, wanted[p], l)
			}
			if len(got) > 5 {
				great.Add(1)
			}
		}
	})
	if great.Load() < 10*tries || lines.Load() < 10*tries {
		t.Errorf("%d Families were great, and %d relations: that is not much of a test", great.Load(), lines.Load())
	}
}
