package check_test

import (
	"errors"
	"fmt"
	"go/ast"
	"go/parser"
	"go/token"
	gotypes "go/types"
	"math/rand/v2"
	"slices"
	"strings"
	"testing"

	"recast/api"
	"recast/check"
	"recast/module"
	"recast/parse"
	"recast/tree"
	"recast/types"
)

// GoCore is nearly a part of Go. So what is right is held here against Go's own checker, over modules of which parts
// were put in the place of others: where the two differ, it must be by one of the differences that the chapter makes.

// imports is the packages that were checked.
type imports map[string]*gotypes.Package

// Import is a package.
func (i imports) Import(path string) (*gotypes.Package, error) {
	if p, found := i[path]; found {
		return p, nil
	}
	return nil, errors.New("no package")
}

// goReading is what Go says of a module.
type goReading struct {
	fset   *token.FileSet
	wrongs []string
	uses   map[string]string // where what stands at a place is declared
	types  map[string]string // types of expressions that are no constants, by their places
	order  []string
}

// at is a place.
func (g *goReading) at(p token.Pos) string {
	place := g.fset.Position(p)
	return fmt.Sprint(place.Filename, " ", place.Offset)
}

// hasRead tells whether a file declares something of the name of the universe's function that Go does not have.
func hasRead(f *ast.File) bool { return f.Scope.Lookup("read") != nil }

// readByGo is what Go says of the files of packages.
func readByGo(m *module.Module, packages []module.Package) *goReading {
	g := &goReading{fset: token.NewFileSet(), uses: map[string]string{}, types: map[string]string{}}
	done := imports{}
	for _, p := range packages {
		var files []*ast.File
		declared := false
		for _, path := range p.Files {
			text, _ := m.Text(path)
			f, err := parser.ParseFile(g.fset, path, text, 0)
			if err != nil {
				g.wrongs = append(g.wrongs, err.Error())
				return g
			}
			files = append(files, f)
			declared = declared || hasRead(f)
		}
		if !declared {
			f, _ := parser.ParseFile(g.fset, "read", "package "+p.Name+"; func read() int { return 0 }", 0)
			files = append(files, f)
		}
		c := gotypes.Config{Importer: done, Error: func(err error) { g.wrongs = append(g.wrongs, err.Error()) }}
		info := &gotypes.Info{Types: map[ast.Expr]gotypes.TypeAndValue{}, Uses: map[*ast.Ident]gotypes.Object{}}
		done[p.Name], _ = c.Check(p.Name, g.fset, files, info)
		g.note(info, p.Name)
	}
	return g
}

// note notes what Go says of a package.
func (g *goReading) note(info *gotypes.Info, pkg string) {
	for id, o := range info.Uses {
		place := g.at(o.Pos())
		if _, isPackage := o.(*gotypes.PkgName); isPackage || o.Pkg() == nil || strings.HasPrefix(place, "read ") {
			place = "elsewhere"
		}
		g.uses[g.at(id.Pos())] = place
	}
	for e, tv := range info.Types {
		if tv.IsValue() && tv.Value == nil {
			text := gotypes.TypeString(tv.Type, (*gotypes.Package).Name)
			text = strings.NewReplacer("interface{", "interface {", "struct{", "struct {", "byte", "int").Replace(text)
			g.types[fmt.Sprint(g.at(e.Pos()), " ", g.fset.Position(e.End()).Offset)] = text
		}
	}
	for _, i := range info.InitOrder {
		g.order = append(g.order, pkg+"."+i.Lhs[0].Name())
	}
}

// stricter is why something is wrong that Go takes: other reasons are none.
var stricter = []string{
	"what has no text is printed", "a method stands elsewhere than as what is called", "an identifier stands for no value", "one value is given to several places", "a conversion, or a function of the universe, is put off", "a list of another type is appended", "a type argument is made of a type parameter",
	"a union has something else than int, string, bool", "no type stands where one should", "an interface embeds what is none", "type arguments are not to be found", "a struct or an interface stands elsewhere than as what a name is", "a struct embeds a pointer or an interface", "a struct embeds what is no declared type",
	"a call of several or of no results stands where a value should", "what can't be compared is switched on", "an identifier stands for nothing, or for what it may not stand for", "a value can't become one of a type", "a value is given to what it may not be given to", "a value is not of the kind that it should be",
}

// looser is what Go finds wrong that is right here: it knows some constants better, and has bytes.
var looser = []string{"duplicate case", "out of bounds", "must not be negative", "byte", "impossible type", "multiple defaults", "mismatched types int and"}

// anyOf tells whether a text has one of some others in it.
func anyOf(text string, list []string) bool {
	return slices.ContainsFunc(list, func(s string) bool { return strings.Contains(text, s) })
}

// mutant is a module with the texts of some expressions and types in the places of others, of the same type or not.
func mutant(random *rand.Rand, l []api.File, like map[string][]string, of map[string]string, all []string) []api.File {
	l = slices.Clone(l)
	i := random.IntN(len(l))
	n, _ := parse.File(l[i].Text)
	nodes := parts(n)
	x := nodes[random.IntN(len(nodes))]
	old, with := l[i].Text[x.From:x.To], all[random.IntN(len(all))]
	if same := like[of[fmt.Sprint(l[i].Path, " ", x.From, " ", x.To)]]; len(same) > 0 && random.IntN(4) > 0 {
		with = same[random.IntN(len(same))]
	}
	sign := strings.Fields("+ - * / % == != < && ||")[random.IntN(10)]
	switch random.IntN(20) {
	case 0:
		with = old + " " + sign + " " + with
	case 1:
		with = with + " " + sign + " " + old
	case 2:
		with = strings.Fields("- ! & * <-")[random.IntN(5)] + old
	case 3:
		with = old + "(" + with + ")"
	case 4:
		with = with + "(" + old + ")"
	}
	l[i].Text = l[i].Text[:x.From] + with + l[i].Text[x.To:]
	return l
}

// ofTypes is the texts of a module's expressions by their types, and the types by the expressions' places.
func ofTypes(t *testing.T, l []api.File) (like map[string][]string, of map[string]string) {
	m := loaded(t, l)
	r, _ := check.Module(m, nil)
	like, of = map[string][]string{}, map[string]string{}
	for _, x := range r.Info.Types {
		text, _ := m.Text(x.Path)
		kind := types.Text(types.Default(x.Type))
		of[fmt.Sprint(x.Path, " ", x.From, " ", x.To)] = kind
		if x.To-x.From < 40 {
			like[kind] = append(like[kind], text[x.From:x.To])
		}
	}
	return like, of
}

// parts is all expressions and types in a tree.
func parts(n api.Node) []api.Node {
	var out []api.Node
	for _, x := range tree.All(n) {
		if tree.Expr(x) || x.Kind >= api.NodePointer && x.Kind <= api.NodeInterface {
			out = append(out, x)
		}
	}
	return out
}

// pool is texts of expressions and types.
func pool(l []api.File) []string {
	out := strings.Split("nil;-1;9223372036854775808;5 / 0;[]string{};func() {};func() int { return 1 };*t;&x;new(int);(t);M(2);B(true);N(\"x\");1 == 1;x == 1;<-c;i.(M);c;e;print;append;id;M;T;b.S{};any(1);str;big;typ;tru;fn;read();recover();none();pair();L{1};len(c);make([]int, 2);d;"+
		"int;string;bool;any;N;B;L;U;K;I;J;A;PT;C;b.S;b.E;b.I;comparable;func();struct {};interface {};*T;chan M;[]string;P;Q", ";")
	for _, f := range l {
		n, _ := parse.File(f.Text)
		for _, x := range parts(n) {
			if x.To-x.From < 40 {
				out = append(out, f.Text[x.From:x.To])
			}
		}
	}
	return out
}

func TestAgainstGo(t *testing.T) {
	texts := pool(great())
	like, of := ofTypes(t, great())
	for seed := range 8 {
		t.Run(fmt.Sprint(seed), func(t *testing.T) {
			t.Parallel()
			random := rand.New(rand.NewPCG(13, uint64(seed)))
			rights, wrongs := 0, 0
			for range 300 {
				l := mutant(random, great(), like, of, texts)
				m, fault := module.Load(l)
				if fault.Code != 0 {
					continue
				}
				if heldAgainstGo(t, m, l) {
					rights++
				} else {
					wrongs++
				}
			}
			if rights < 30 || wrongs < 30 {
				t.Errorf("%d are right, %d wrong: that is not much of a test", rights, wrongs)
			}
		})
	}
}

// heldAgainstGo holds what is said of a module against what Go says of it, and tells whether the module is right.
func heldAgainstGo(t *testing.T, m *module.Module, l []api.File) bool {
	t.Helper()
	packages, fault := m.Config(nil)
	if fault.Code != 0 {
		return false
	}
	why, other := check.Reason(m, nil)
	if other != nil {
		t.Fatalf("rule 1: checking ends with %v at %s", other, shownFiles(l))
	}
	r, fault := check.Module(m, nil)
	g := readByGo(m, packages)
	switch {
	case (fault.Code == 0) != (why == ""):
		t.Fatalf("P13.1: Module is %v, as %q, of %s", fault, why, shownFiles(l))
	case why == "" && len(g.wrongs) > 0:
		if !anyOf(g.wrongs[0], looser) {
			t.Fatalf("P13.1: right, but for Go %s, is %s", g.wrongs[0], shownFiles(l))
		}
	case why != "" && len(g.wrongs) == 0:
		if !slices.Contains(stricter, why) {
			t.Fatalf("P13.1: wrong (%s), but not for Go, is %s", why, shownFiles(l))
		}
	case why == "":
		sameInfo(t, m, r, g, l)
	}
	return why == ""
}

// sameInfo holds what is told of a module that is right against what Go tells.
func sameInfo(t *testing.T, m *module.Module, r check.Result, g *goReading, l []api.File) {
	t.Helper()
	for _, u := range r.Info.Uses {
		place := "elsewhere"
		if u.Obj >= 0 {
			if o := r.Info.Objects[u.Obj]; o.Kind != api.ObjPackage {
				place = fmt.Sprint(o.Path, " ", o.At)
			}
		}
		at := fmt.Sprint(u.Path, " ", u.At)
		if want, told := g.uses[at]; told && want != place {
			t.Fatalf("P13.1: the use at %s is of %s, for Go of %s, in %s", at, place, want, shownFiles(l))
		}
		delete(g.uses, at)
	}
	for at := range g.uses {
		if !strings.HasPrefix(at, "read ") {
			t.Fatalf("P13.1: no use is told at %s, in %s", at, shownFiles(l))
		}
	}
	for _, x := range r.Info.Types {
		want, told := g.types[fmt.Sprint(x.Path, " ", x.From, " ", x.To)]
		of := types.Text(types.Default(x.Type))
		// Functions are told by Go with the names of their parameters, what is given to another type by that, and
		// two-valued forms with both.
		if told && !x.Const && x.Type.Kind != api.TypeNil && x.Type.Kind != api.TypeConstBool && !strings.ContainsAny(want, "(") && want != of && !(of == "any" && want == "interface {}") {
			t.Fatalf("P13.1: the expression from %d to %d of %s is %s, for Go %s, in %s", x.From, x.To, x.Path, of, want, shownFiles(l))
		}
	}
	var order []string
	for _, number := range r.Order {
		o := r.Info.Objects[number]
		if text, _ := m.Text(o.Path); strings.Contains(strings.SplitN(text[o.At:], "\n", 2)[0], "=") {
			order = append(order, o.Pkg+"."+o.Name)
		}
	}
	if !slices.Equal(order, g.order) {
		t.Fatalf("P13.1: the order is %v, for Go %v, of %s", order, g.order, shownFiles(l))
	}
}
