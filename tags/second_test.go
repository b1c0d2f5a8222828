package tags_test

import (
	"math/rand/v2"
	"regexp"
	"slices"
	"strings"
	"testing"

	"recast/api"
	"recast/tags"
)

const words = "break case chan const continue default defer else fallthrough for func go goto if import interface map package range return select struct switch type var"

// A second reading of rules: a row of signs is worked off from the inside, until a value alone is left.
var (
	piece  = regexp.MustCompile(`^(?:[a-z][a-z0-9]*|&&|\|\||[!()])`)
	inTag  = regexp.MustCompile(`^[a-z]`)
	inner  = regexp.MustCompile(`\(([01])\)`)
	turned = regexp.MustCompile(`!([01])`)
	ands   = regexp.MustCompile(`([01])&([01])`)
	ors    = regexp.MustCompile(`(^|\(|\|)([01])\|([01])($|\)|\|)`)
)

// pieces is the signs and tags of a line; false, where something else stands in it.
func pieces(line string) ([]string, bool) {
	var out []string
	for line = strings.TrimLeft(line, " "); line != ""; line = strings.TrimLeft(line, " ") {
		p := piece.FindString(line)
		if p == "" || len(p) > 60 || slices.Contains(strings.Fields(words), p) {
			return nil, false
		}
		out = append(out, p)
		line = line[len(p):]
	}
	return out, len(out) <= 200
}

// value is what a row of signs and tags comes to, if just the tags in set are true; false, if the row is no rule.
func value(row, set []string) (holds, isRule bool) {
	var b strings.Builder
	for _, p := range row {
		switch {
		case p == "true" || slices.Contains(set, p):
			b.WriteByte('1')
		case inTag.MatchString(p):
			b.WriteByte('0')
		default:
			b.WriteByte(p[0])
		}
	}
	now := b.String()
	for was := ""; was != now; {
		was = now
		if now = inner.ReplaceAllString(was, "$1"); now != was {
			continue
		}
		if now = turned.ReplaceAllStringFunc(was, func(s string) string { return string('0' + '1' - s[1]) }); now != was {
			continue
		}
		if now = ands.ReplaceAllStringFunc(was, func(s string) string { return string(min(s[0], s[2])) }); now != was {
			continue
		}
		if m := ors.FindStringSubmatchIndex(was); m != nil {
			now = was[:m[4]] + string(max(was[m[4]], was[m[6]])) + was[m[7]:]
		}
	}
	return now == "1", now == "0" || now == "1"
}

// own is the tags of a row, each once, rising.
func own(row []string) []string {
	var out []string
	for _, p := range row {
		if p != "true" && inTag.MatchString(p) {
			out = append(out, p)
		}
	}
	slices.Sort(out)
	return slices.Compact(out)
}

// subsets is all sets of tags in the order of counting, the tags sorted and each once.
func subsets(sorted []string) [][]string {
	if len(sorted) == 0 {
		return [][]string{nil}
	}
	without := subsets(sorted[1:])
	out := slices.Clone(without)
	for _, s := range without {
		out = append(out, append([]string{sorted[0]}, s...))
	}
	return out
}

// line is the rule of a line, which must have one.
func line(t *testing.T, s string) *tags.Rule {
	t.Helper()
	r, err := tags.Read("//build " + s)
	if err != api.OK {
		t.Fatalf("P6.1: Read(`//build %.80s`) is %d", s, err)
	}
	return r
}

// wrong wants a line to be no rule.
func wrong(t *testing.T, s string) {
	t.Helper()
	if r, err := tags.Read("//build " + s); r != nil || err != api.ErrText {
		t.Fatalf("P6.1: Read(`//build %.80s`) is %s, %d", s, r.Text(), err)
	}
}

// against holds a line against the second reading: whether it is a rule, its tags, and at which sets it holds.
func against(t *testing.T, s string) {
	t.Helper()
	row, ok := pieces(s)
	if ok {
		_, ok = value(row, nil)
	}
	if !ok {
		wrong(t, s)
		return
	}
	r := line(t, s)
	if got, want := r.Tags(), own(row); !slices.Equal(got, want) {
		t.Fatalf("P6.2: the tags of %q are %q, want %q", s, got, want)
	}
	for _, set := range subsets(own(row)) {
		if want, _ := value(row, set); r.Holds(set) != want {
			t.Fatalf("P6.2: of %q Holds(%q) is %v", s, set, !want)
		}
	}
}

// rows is all rows of so many signs and tags.
func rows(n int) [][]string {
	if n == 0 {
		return [][]string{nil}
	}
	var out [][]string
	for _, row := range rows(n - 1) {
		for _, p := range []string{"a", "b", "true", "!", "&&", "||", "(", ")"} {
			out = append(out, append(slices.Clone(row), p))
		}
	}
	return out
}

// All short rows of signs and tags, with a blank between and, where that is the same row, with none.
func TestShortRows(t *testing.T) {
	for n := range 6 {
		for _, row := range rows(n) {
			against(t, strings.Join(row, " "))
			against(t, strings.Join(row, ""))
		}
	}
}

// All rows of six whose first and last sign could be those of a rule.
func TestRowsOfSix(t *testing.T) {
	for _, row := range rows(4) {
		for _, first := range []string{"a", "!", "("} {
			for _, last := range []string{"b", "true", ")"} {
				against(t, first+" "+strings.Join(row, " ")+" "+last)
			}
		}
	}
}

// Rules of many signs, and what comes of them where one is left out, doubled, changed for another or put elsewhere.
func TestLongRows(t *testing.T) {
	random := rand.New(rand.NewPCG(6, 1))
	signs := []string{"a", "b", "c9", "true", "!", "&&", "||", "(", ")"}
	for range 4000 {
		row, _ := pieces(grown(random, 2+random.IntN(9)).written(random))
		against(t, strings.Join(row, " "))
		at, to := random.IntN(len(row)), random.IntN(len(row))
		against(t, strings.Join(slices.Delete(slices.Clone(row), at, at+1), " "))
		against(t, strings.Join(slices.Insert(slices.Clone(row), at, row[at]), " "))
		against(t, strings.Join(slices.Insert(slices.Clone(row), at, signs[random.IntN(len(signs))]), " "))
		row[at], row[to] = row[to], row[at]
		against(t, strings.Join(row, " "))
		row[at] = signs[random.IntN(len(signs))]
		against(t, strings.Join(row, " "))
	}
}

// Each byte at each place of a tag, and between two signs.
func TestBytes(t *testing.T) {
	for c := range 256 {
		b := string([]byte{byte(c)})
		for _, s := range []string{b, b + "a", "a" + b, "a" + b + "b", "a && " + b, "a " + b + " b", "a " + b + "&& b", "a &" + b + "& b", "a |" + b + "| b", "a &&" + b + "b", "(" + b + "a)", "!" + b + "a", b + b, b + b + b, "a" + b + b + "b"} {
			first, _, cut := strings.Cut(s, "\n")
			if !cut {
				against(t, s)
				continue
			}
			// A byte 10 ends the rule, wherever it stands.
			if row, ok := pieces(first); !ok {
				wrong(t, s)
			} else if _, ok := value(row, nil); !ok {
				wrong(t, s)
			} else if got, want := line(t, s).Text(), line(t, first).Text(); got != want {
				t.Errorf("P6.1: the rule of %q is %s, want %s", s, got, want)
			}
		}
	}
}
