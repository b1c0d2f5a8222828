package tags

import "slices"

// part is a rule, or what one is made of.
type part interface {
	// holds tells whether it is true, if just the tags in set are.
	holds(set []string) bool
	// names is its tags as they stand, in memory of its own.
	names() []string
	// text is it with no brackets but those that it needs within.
	text() string
	// rank is how close it binds.
	rank() int
}

// Ranks, the least one first.
const (
	rankOr = iota
	rankAnd
	rankOne
)

// always is `true`.
type always struct{}

func (always) holds(set []string) bool { return true }

func (always) names() []string { return nil }

func (always) text() string { return "true" }

func (always) rank() int { return rankOne }

// tag is a tag.
type tag string

func (t tag) holds(set []string) bool { return slices.Contains(set, string(t)) }

func (t tag) names() []string { return []string{string(t)} }

func (t tag) text() string { return string(t) }

func (t tag) rank() int { return rankOne }

// not is a part behind a `!`.
type not struct {
	of part
}

func (n not) holds(set []string) bool { return !n.of.holds(set) }

func (n not) names() []string { return n.of.names() }

func (n not) text() string { return "!" + within(n.of, n.rank()) }

func (n not) rank() int { return rankOne }

// pair is the two parts beside a sign.
type pair struct {
	left  part
	right part
}

func (p pair) names() []string { return append(p.left.names(), p.right.names()...) }

// around is both parts with the sign, which binds as close as the rank says, between them.
func (p pair) around(sign string, rank int) string {
	return within(p.left, rank) + " " + sign + " " + within(p.right, rank)
}

// both is two parts with an `&&` between.
type both struct {
	pair
}

func (b both) holds(set []string) bool { return b.left.holds(set) && b.right.holds(set) }

func (b both) text() string { return b.around(signAnd, b.rank()) }

func (b both) rank() int { return rankAnd }

// either is two parts with an `||` between.
type either struct {
	pair
}

func (e either) holds(set []string) bool { return e.left.holds(set) || e.right.holds(set) }

func (e either) text() string { return e.around(signOr, e.rank()) }

func (e either) rank() int { return rankOr }

// within is a part's text beside a sign that binds as close as the rank says.
func within(p part, rank int) string {
	// Within one of its own sign a part needs none: it is all the same how these are bracketed.
	if p.rank() < rank {
		return "(" + p.text() + ")"
	}
	return p.text()
}
