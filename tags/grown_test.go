package tags_test

import (
	"math/rand/v2"
	"slices"
	"strings"
	"testing"
)

// shape is a rule that a test has made: a tag or `true`, or a sign with its parts.
type shape struct {
	sign  string
	parts []shape
}

// grown is any rule of so many tags.
func grown(random *rand.Rand, n int) shape {
	if random.IntN(5) == 0 {
		return shape{"!", []shape{grown(random, n)}}
	}
	if n == 1 {
		return shape{sign: []string{"a", "b", "c9", "true"}[random.IntN(4)]}
	}
	left := 1 + random.IntN(n-1)
	return shape{[]string{"&&", "||"}[random.IntN(2)], []shape{grown(random, left), grown(random, n-left)}}
}

// holds is whether it is true.
func (s shape) holds(set []string) bool {
	switch s.sign {
	case "!":
		return !s.parts[0].holds(set)
	case "&&":
		return s.parts[0].holds(set) && s.parts[1].holds(set)
	case "||":
		return s.parts[0].holds(set) || s.parts[1].holds(set)
	}
	return s.sign == "true" || slices.Contains(set, s.sign)
}

// needs tells whether a part needs brackets within the sign.
func needs(part, sign string) bool {
	return part == "||" && (sign == "&&" || sign == "!") || part == "&&" && sign == "!"
}

// written is a way to write it: with brackets that it needs and others, and blanks.
func (s shape) written(random *rand.Rand) string {
	var b strings.Builder
	gap := func() { b.WriteString(strings.Repeat(" ", max(0, random.IntN(5)-2))) }
	for i, p := range s.parts {
		if i > 0 || s.sign == "!" {
			gap()
			b.WriteString(s.sign)
			gap()
		}
		text := p.written(random)
		brackets := max(0, random.IntN(6)-3)
		if needs(p.sign, s.sign) {
			brackets++
		}
		for range brackets {
			text = "(" + text + ")"
		}
		b.WriteString(text)
	}
	if len(s.parts) == 0 {
		return s.sign
	}
	return b.String()
}

// row is the parts that stand side by side with the sign between, however they are bracketed.
func (s shape) row(sign string) []shape {
	if s.sign != sign {
		return []shape{s}
	}
	return append(s.parts[0].row(sign), s.parts[1].row(sign)...)
}

// text is what Text is to tell.
func (s shape) text() string {
	if len(s.parts) == 0 {
		return s.sign
	}
	side := s.parts
	if s.sign != "!" {
		side = s.row(s.sign)
	}
	var texts []string
	for _, p := range side {
		text := p.text()
		if needs(p.sign, s.sign) {
			text = "(" + text + ")"
		}
		texts = append(texts, text)
	}
	if s.sign == "!" {
		return "!" + texts[0]
	}
	return strings.Join(texts, " "+s.sign+" ")
}

// names is all tags that a grown rule may have, and one that none has.
func names() []string { return []string{"a", "b", "c9", "other"} }

// Rules of any shape, however they are written, hold and tell as their shape says.
func TestGrownRules(t *testing.T) {
	random := rand.New(rand.NewPCG(6, 2))
	for range 20000 {
		s := grown(random, 1+random.IntN(12))
		src := s.written(random)
		r := line(t, src)
		if got, want := r.Text(), s.text(); got != want {
			t.Fatalf("P6.2: Text of %q is %q, want %q", src, got, want)
		}
		for _, set := range subsets(names()) {
			if r.Holds(set) != s.holds(set) {
				t.Fatalf("P6.2: of %q Holds(%q) is %v", src, set, r.Holds(set))
			}
		}
	}
}

// What Text tells is read back as the same rule; a `!` turns it, brackets don't.
func TestReadBack(t *testing.T) {
	random := rand.New(rand.NewPCG(6, 5))
	for range 10000 {
		r := line(t, grown(random, 1+random.IntN(10)).written(random))
		text := r.Text()
		back, not, within := line(t, text), line(t, "!("+text+")"), line(t, "("+text+")")
		for _, set := range subsets(names()) {
			h := r.Holds(set)
			if back.Holds(set) != h || not.Holds(set) == h || within.Holds(set) != h {
				t.Fatalf("P6.5: of %q Holds(%q) is %v, read back %v, with a `!` %v, within brackets %v", text, set, h, back.Holds(set), not.Holds(set), within.Holds(set))
			}
		}
		if !back.Same(r, names()) || not.Same(r, names()) || !within.Same(r, names()) {
			t.Fatalf("P6.5: Same of %q is wrong", text)
		}
		if back.Text() != text || within.Text() != text {
			t.Fatalf("P6.5: of %q, Text of what is read back is %q, within brackets %q", text, back.Text(), within.Text())
		}
	}
}

// Whichever pair of brackets is taken out of what Text tells, it is another rule then.
func TestNoOtherBrackets(t *testing.T) {
	random := rand.New(rand.NewPCG(6, 3))
	for range 4000 {
		text := line(t, grown(random, 2+random.IntN(10)).written(random)).Text()
		var open []int
		for i := range len(text) {
			switch text[i] {
			case '(':
				open = append(open, i)
			case ')':
				from := open[len(open)-1]
				open = open[:len(open)-1]
				less := text[:from] + text[from+1:i] + text[i+1:]
				if got := line(t, less).Text(); got == text {
					t.Fatalf("P6.2: %q is told as %q", less, text)
				}
			}
		}
	}
}
