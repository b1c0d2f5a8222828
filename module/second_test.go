package module_test

import (
	"math/rand/v2"
	"slices"
	"strings"
	"testing"

	"recast/api"
	"recast/module"
	"recast/parse"
	"recast/tags"
)

// draft is a file that a test has made, of which it knows what is wrong, and what it has.
type draft struct {
	api.File
	badPath, badText, badRule, badHead bool
	dir                                string
	rule                               string // a tag, a tag behind a `!`, or empty
	imports                            []string
}

// in tells whether it is in a configuration.
func (d draft) in(set []string) bool {
	tag, not := strings.CutPrefix(d.rule, "!")
	return d.rule == "" || slices.Contains(set, tag) != not
}

// text is the text that a draft says, with a remark that tells it from others.
func (d draft) text(random *rand.Rand) string {
	var b strings.Builder
	switch {
	case d.badRule:
		b.WriteString("//build " + pick(random, "&", "", "(a", "a b", "a &&", "A", "_a") + "\n")
	case d.rule != "":
		b.WriteString("//build " + d.rule + "\n")
	}
	name := d.dir
	imports := slices.Clone(d.imports)
	random.Shuffle(len(imports), func(i, k int) { imports[i], imports[k] = imports[k], imports[i] })
	if d.badHead && len(imports) > 0 && random.IntN(2) == 0 {
		imports = append(imports, pick(random, imports...))
	} else if d.badHead {
		name += "x"
	}
	b.WriteString("package " + name + "\n")
	for _, path := range imports {
		b.WriteString("import \"" + path + "\"\n")
	}
	if d.badText {
		b.WriteString(pick(random, "\xff", "#", "var", "x", "import 1", "var x = "+strings.Repeat("!", api.MaxNest)+"x"))
	}
	return b.String()
}

func pick(random *rand.Rand, l ...string) string { return l[random.IntN(len(l))] }

// drafts is some files: with faults, each now and then, if wrong.
func drafts(random *rand.Rand, wrong bool) []draft {
	dirs := []string{"main", "a", "b", "c1", "z"}[:1+random.IntN(5)]
	now := func() bool { return wrong && random.IntN(10) == 0 }
	var out []draft
	for range random.IntN(8) {
		d := draft{dir: pick(random, dirs...), badPath: now(), badText: now(), badRule: now(), badHead: now()}
		d.Path = d.dir + "/" + pick(random, "a", "a1", "a_", "b", "m") + ".gc"
		if d.badPath {
			d.Path = pick(random, "", "?", "main/A.gc", "a/_.gc", "z/for.gc", "~", "b/b.go")
		}
		if !wrong && slices.ContainsFunc(out, func(o draft) bool { return o.Path == d.Path }) {
			continue
		}
		if random.IntN(3) == 0 {
			d.rule = pick(random, "t", "!t", "u", "!u")
		}
		for _, path := range append(dirs, "lost") {
			if path != d.dir && random.IntN(4) == 0 && (path != "lost" || random.IntN(5) == 0) || random.IntN(60) == 0 {
				d.imports = append(d.imports, path)
			}
		}
		d.Text = d.text(random)
		out = append(out, d)
	}
	return out
}

// listed is the files of drafts.
func listed(l []draft) []api.File {
	var out []api.File
	for _, d := range l {
		out = append(out, d.File)
	}
	return out
}

// least is the draft of the least path of those that are so.
func least(l []draft, so func(d draft) bool) (draft, bool) {
	var found []draft
	for _, d := range l {
		if so(d) {
			found = append(found, d)
		}
	}
	if len(found) == 0 {
		return draft{}, false
	}
	return slices.MinFunc(found, func(a, b draft) int { return strings.Compare(a.Path, b.Path) }), true
}

// firstFault is what is to be told of drafts.
func firstFault(l []draft) api.Fault {
	twice := func(d draft) bool {
		n := 0
		for _, o := range l {
			if o.Path == d.Path {
				n++
			}
		}
		return n > 1
	}
	if d, bad := least(l, func(d draft) bool { return d.badPath || twice(d) }); bad {
		return api.Fault{Code: api.FaultPath, Path: d.Path}
	}
	if d, bad := least(l, func(d draft) bool { return d.badText }); bad {
		_, fault := parse.File(d.Text)
		fault.Path = d.Path
		return fault
	}
	if d, bad := least(l, func(d draft) bool { return d.badRule }); bad {
		return api.Fault{Code: api.FaultTags, Path: d.Path}
	}
	if d, bad := least(l, func(d draft) bool { return d.badHead }); bad {
		return api.Fault{Code: api.FaultLoad, Path: d.Path}
	}
	return api.Fault{}
}

// The fault of any files is the one that is known to come first.
func TestAnyFaults(t *testing.T) {
	random := rand.New(rand.NewPCG(7, 1))
	told := map[int]int{}
	for range 30000 {
		l := drafts(random, true)
		want := firstFault(l)
		m, fault := module.Load(listed(l))
		if fault != want || (m == nil) != (want.Code != 0) {
			t.Fatalf("P7.1: Load(%q) is %v, want %v", listed(l), fault, want)
		}
		told[fault.Code]++
	}
	for code := range api.FaultType {
		if told[code] < 20 {
			t.Errorf("the test has the fault %d only %d times", code, told[code])
		}
	}
}

// rowOf is the packages in an order of their names, as far as the order keeps to the imports.
func rowOf(l []draft, set, order []string) ([]module.Package, bool) {
	var row []module.Package
	for i, name := range order {
		p := module.Package{Name: name}
		for _, d := range l {
			if d.dir != name || !d.in(set) {
				continue
			}
			p.Files = append(p.Files, d.Path)
			for _, path := range d.imports {
				if !slices.Contains(order[:i], path) {
					return nil, false
				}
				if !slices.Contains(p.Imports, path) {
					p.Imports = append(p.Imports, path)
				}
			}
		}
		slices.Sort(p.Files)
		slices.Sort(p.Imports)
		row = append(row, p)
	}
	return row, true
}

// leastRow is what Config is to tell: of all orders in which each package stands behind those that it imports the one that is the least, name by name.
func leastRow(l []draft, set []string) ([]module.Package, api.Fault) {
	var names []string
	for _, d := range l {
		if d.in(set) && !slices.Contains(names, d.dir) {
			names = append(names, d.dir)
		}
	}
	all := orders(names)
	slices.SortFunc(all, slices.Compare)
	for _, order := range all {
		if row, keeps := rowOf(l, set, order); keeps && slices.Contains(order, "main") {
			return row, api.Fault{}
		}
	}
	return nil, api.Fault{Code: api.FaultLoad}
}

// The packages of any files that load, in each configuration, and all else that is told of them.
func TestAnyConfigs(t *testing.T) {
	random := rand.New(rand.NewPCG(7, 3))
	right, wrong := 0, 0
	for range 4000 {
		l := drafts(random, false)
		m := loaded(t, listed(l))
		for _, set := range [][]string{nil, {"t"}, {"u"}, {"u", "t", "v"}} {
			want, no := leastRow(l, set)
			row, fault := m.Config(set)
			if fault != no || shown(row) != shown(want) {
				t.Fatalf("P7.3: of %q, Config(%q) is %s, %v\nwant %s, %v", listed(l), set, shown(row), fault, shown(want), no)
			}
			if no.Code == 0 {
				right++
			} else {
				wrong++
			}
		}
		told(t, m, l)
	}
	if right < 2000 || wrong < 2000 {
		t.Errorf("the test has %d right configurations and %d wrong ones", right, wrong)
	}
}

// told wants a module to tell of its files what the drafts say.
func told(t *testing.T, m *module.Module, l []draft) {
	t.Helper()
	var paths, names []string
	for _, d := range l {
		paths = append(paths, d.Path)
		rule, _ := tags.Read(d.Text)
		names = append(names, rule.Tags()...)
		n, there := m.Tree(d.Path)
		want, _ := parse.File(d.Text)
		text, known := m.Text(d.Path)
		if !there || !known || text != d.Text || nodes(n) != nodes(want) || m.Rule(d.Path).Text() != rule.Text() {
			t.Fatalf("P7.2: of %s there is %s %v, %q %v, %s", d.Path, nodes(n), there, text, known, m.Rule(d.Path).Text())
		}
	}
	slices.Sort(paths)
	slices.Sort(names)
	if !slices.Equal(m.Paths(), paths) || !slices.Equal(m.Tags(), slices.Compact(names)) {
		t.Fatalf("P7.2: of %q, Paths is %q, Tags %q", paths, m.Paths(), m.Tags())
	}
}
