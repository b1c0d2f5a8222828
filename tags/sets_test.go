package tags_test

import (
	"math/rand/v2"
	"slices"
	"strconv"
	"strings"
	"testing"

	"recast/api"
	"recast/tags"
)

// shown is sets in one text.
func shown(sets [][]string) string {
	var texts []string
	for _, s := range sets {
		texts = append(texts, "{"+strings.Join(s, " ")+"}")
	}
	return strings.Join(texts, "")
}

func TestSets(t *testing.T) {
	for _, x := range []struct {
		tags []string
		want string
	}{
		{nil, "{}"}, {[]string{}, "{}"}, {[]string{"a"}, "{}{a}"}, {[]string{"b", "a"}, "{}{b}{a}{a b}"}, {[]string{"a", "a"}, "{}{a}"}, {[]string{"b", "a", "b", "b", "a"}, "{}{b}{a}{a b}"},
		{[]string{"c", "a", "b"}, "{}{c}{b}{b c}{a}{a c}{a b}{a b c}"}, {[]string{"a9", "a10", "B", "é"}, shown(subsets([]string{"B", "a10", "a9", "é"}))}, {[]string{"b", ""}, "{}{b}{}{ b}"}, {[]string{"true", "!a"}, "{}{true}{!a}{!a true}"},
	} {
		if got := shown(tags.Sets(x.tags)); got != x.want {
			t.Errorf("P6.3: Sets(%q) is %s, want %s", x.tags, got, x.want)
		}
	}
}

// Any tags in any order, some of them twice, up to as many as may be and one more.
func TestSetsOfMany(t *testing.T) {
	random := rand.New(rand.NewPCG(6, 3))
	all := append(ten(), "k")
	for n := range api.MaxTags + 2 {
		for range 5 {
			list := slices.Clone(all[:n])
			for range random.IntN(3 * (n + 1)) {
				if n > 0 {
					list = append(list, all[random.IntN(n)])
				}
			}
			random.Shuffle(len(list), func(i, k int) { list[i], list[k] = list[k], list[i] })
			got := tags.Sets(list)
			if n > api.MaxTags {
				if len(got) != 0 {
					t.Fatalf("P6.3: Sets of %d tags has %d", n, len(got))
				}
				continue
			}
			if len(got) != 1<<n || shown(got) != shown(subsets(all[:n])) {
				t.Fatalf("P6.3: Sets(%q) is %s", list, shown(got))
			}
		}
	}
}

func TestSetsOfVeryMany(t *testing.T) {
	var same, other []string
	for i := range 300000 {
		same = append(same, []string{"b", "a"}[i%2])
		other = append(other, "t"+strconv.Itoa(i))
	}
	if got := shown(tags.Sets(same)); got != "{}{b}{a}{a b}" {
		t.Errorf("P6.3: %s", got)
	}
	if got := tags.Sets(other); len(got) != 0 {
		t.Errorf("P6.3: %d", len(got))
	}
	r := line(t, "a && t7")
	if !r.Same(r, same) || r.Same(r, other) || r.Holds(other) || r.Holds(same) || !r.Holds(append(other, "a")) {
		t.Errorf("P6.2: of very many tags")
	}
}
