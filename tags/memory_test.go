package tags_test

import (
	"slices"
	"strings"
	"testing"

	"recast/tags"
)

// roomy is the list with more behind it, and all of that memory.
func roomy(list ...string) (l, all []string) {
	all = append(slices.Clone(list), "x", "b", "y", "a")
	return all[:len(list)], all
}

// What is handed in stays as it was, its spare room too.
func TestHandedInUnchanged(t *testing.T) {
	r, s := line(t, "b || a && !c"), line(t, "a")
	for _, list := range [][]string{nil, {"a"}, {"c", "b", "a"}, {"b", "a", "b", "a"}, {"d", "d", "d"}, append(ten(), ten()...), strings.Fields("k j i h g f e d c b a")} {
		l, all := roomy(list...)
		was := slices.Clone(all)
		r.Holds(l)
		r.Same(s, l)
		r.Same(r, l)
		for _, set := range tags.Sets(l) {
			for i := range set[:cap(set)] {
				set[:cap(set)][i] = "changed"
			}
		}
		if !slices.Equal(all, was) {
			t.Fatalf("rule 3: %q has become %q", was, all)
		}
	}
}

// What is answered is new memory, each list of its own.
func TestAnswersAreNew(t *testing.T) {
	for n := range 6 {
		list := ten()[:n]
		want := shown(subsets(list))
		sets := tags.Sets(list)
		// Each set is looked at and then spoilt with its spare room: one that shares memory with it shows that.
		var texts []string
		for i := range sets {
			texts = append(texts, "{"+strings.Join(sets[i], " ")+"}")
			whole := sets[i][:cap(sets[i])]
			for k := range whole {
				whole[k] = "changed"
			}
		}
		if got := strings.Join(texts, ""); got != want {
			t.Fatalf("rule 3: the sets of %q share memory: %s", list, got)
		}
		for i := range list {
			list[i] = "changed"
		}
		if got := shown(tags.Sets(ten()[:n])); got != want {
			t.Fatalf("rule 4: Sets is %s, want %s", got, want)
		}
	}
	r := line(t, "b && a || !c && b")
	for range 3 {
		l := r.Tags()
		if !slices.Equal(l, []string{"a", "b", "c"}) || r.Text() != "b && a || !c && b" || !r.Holds([]string{"a", "b"}) {
			t.Fatalf("rule 3: the rule shares memory with what it answered: %q, %s", l, r.Text())
		}
		for i := range l[:cap(l)] {
			l[:cap(l)][i] = "changed"
		}
	}
}

// Sets are not kept from what was handed in: it may change afterwards.
func TestNothingKept(t *testing.T) {
	list := []string{"b", "a", "b"}
	sets := tags.Sets(list)
	clear(list)
	if got := shown(sets); got != "{}{b}{a}{a b}" {
		t.Errorf("rule 3: %s", got)
	}
	src := []byte("//build a && b")
	r, _ := tags.Read(string(src))
	clear(src)
	if r.Text() != "a && b" {
		t.Errorf("rule 3: %s", r.Text())
	}
}

// Two rules have nothing in common; asking one changes nothing.
func TestAskedAgain(t *testing.T) {
	r, s := line(t, "b || a"), line(t, "b || a && c")
	for range 3 {
		if r.Text() != "b || a" || s.Text() != "b || a && c" || !slices.Equal(r.Tags(), []string{"a", "b"}) || !slices.Equal(s.Tags(), []string{"a", "b", "c"}) {
			t.Fatalf("rule 4: %s %s", r.Text(), s.Text())
		}
		if !r.Holds([]string{"a"}) || s.Holds([]string{"a"}) || r.Same(s, []string{"a"}) || !r.Same(s, []string{"b"}) || !r.Same(r, ten()) {
			t.Fatalf("rule 4: %s %s hold otherwise when asked again", r.Text(), s.Text())
		}
	}
}
