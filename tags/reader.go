package tags

import (
	"strings"

	"recast/api"
	"recast/scan"
)

// The signs between two parts.
const (
	signAnd = "&&"
	signOr  = "||"
)

// reader goes through the signs and tags of a rule.
type reader struct {
	rest []string
}

// read is the rule that the line is; false, if it is none.
func read(line string) (part, bool) {
	signs, ok := split(line)
	if !ok {
		return nil, false
	}
	r := reader{rest: signs}
	top, ok := r.rule()
	return top, ok && len(r.rest) == 0
}

// split is the signs of a line, and what may be tags; false, if something else stands there, or too many. (That
// they are few is known ahead of reading them: so the parts within one another are few, too.)
func split(line string) ([]string, bool) {
	var out []string
	for at := 0; at < len(line); {
		if line[at] == ' ' {
			at++
			continue
		}
		n := signAt(line[at:])
		if n == 0 || len(out) == api.MaxNest {
			return nil, false
		}
		out = append(out, line[at:at+n])
		at += n
	}
	return out, true
}

// signAt is how many bytes the sign, or what may be a tag, has that s begins with; 0, if there is none.
func signAt(s string) int {
	switch s[0] {
	case '!', '(', ')':
		return 1
	case '&', '|':
		if len(s) > 1 && s[1] == s[0] {
			return 2
		}
		return 0
	}
	n := 0
	for n < len(s) && inTag(s[n]) {
		n++
	}
	return n
}

// inTag tells whether a tag may have the byte.
func inTag(c byte) bool { return 'a' <= c && c <= 'z' || '0' <= c && c <= '9' }

// took takes the sign if it is next, and tells whether it was.
func (r *reader) took(sign string) bool {
	if len(r.rest) == 0 || r.rest[0] != sign {
		return false
	}
	r.rest = r.rest[1:]
	return true
}

// rule reads parts with `||` between.
func (r *reader) rule() (part, bool) {
	return r.row(signOr, r.all, func(two pair) part { return either{two} })
}

// all reads parts with `&&` between.
func (r *reader) all() (part, bool) {
	return r.row(signAnd, r.one, func(two pair) part { return both{two} })
}

// row reads one part, and another one behind each sign that follows; joined is what the sign makes of two.
func (r *reader) row(sign string, operand func() (part, bool), joined func(two pair) part) (part, bool) {
	left, ok := operand()
	for ok && r.took(sign) {
		var right part
		right, ok = operand()
		left = joined(pair{left: left, right: right})
	}
	return left, ok
}

// one reads a part that binds closest.
func (r *reader) one() (part, bool) {
	switch {
	case r.took("!"):
		of, ok := r.one()
		return not{of: of}, ok
	case r.took("("):
		inner, ok := r.rule()
		return inner, ok && r.took(")")
	case r.took("true"):
		return always{}, true
	}
	return r.tag()
}

// tag reads a tag.
func (r *reader) tag() (part, bool) {
	if len(r.rest) == 0 || !scan.Ident(r.rest[0]) {
		return nil, false
	}
	// A copy, so that a rule does not keep the source.
	name := strings.Clone(r.rest[0])
	r.rest = r.rest[1:]
	return tag(name), true
}
