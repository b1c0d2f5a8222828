package scan

import (
	"strings"

	"recast/api"
	"recast/spans"
)

// lineEnd ends a line, and is the Text of the TokSemi that stands for its end.
const lineEnd = "\n"

// reader is a source that is being read, and what stood in it so far.
type reader struct {
	src     string
	tokens  []api.Token
	remarks []api.Span
}

// read is the tokens and the remarks of a source, or its fault.
func read(src string) (tokens []api.Token, remarks []api.Span, fault api.Fault) {
	if len(src) > api.MaxBytes || !spans.Valid(src) {
		return nil, nil, api.Fault{Code: api.FaultText}
	}
	defer func() {
		if f, gaveUp := recover().(api.Fault); gaveUp {
			tokens, remarks, fault = nil, nil, f
		}
	}()
	r := reader{src: src}
	r.all()
	return r.tokens, r.remarks, api.Fault{}
}

// wrongAt is what the reading gives up with, where nothing stands at the byte number that may stand in a source.
func wrongAt(at int) api.Fault {
	return api.Fault{Code: api.FaultScan, At: at}
}

// all reads the source from its beginning to its end.
func (r *reader) all() {
	done := 0
	for at, c := range r.src {
		if at >= done {
			done = r.piece(at, c)
		}
	}
	r.endLine(len(r.src))
	r.add(api.TokEnd, len(r.src), len(r.src))
}

// piece reads what begins at from, with c, and is where it ends.
func (r *reader) piece(from int, c rune) int {
	rest := r.src[from:]
	switch {
	case c == '\n':
		r.endLine(from)
		return from + 1
	case c == ' ', c == '\t', c == '\r':
		return from + 1
	case letter(c):
		return r.name(from)
	case digit(c):
		return r.number(from)
	case c == '"':
		return r.quoted(from)
	case strings.HasPrefix(rest, "//"):
		return r.shortRemark(from)
	case strings.HasPrefix(rest, "/*"):
		return r.longRemark(from)
	case c == ';':
		return r.add(api.TokSemi, from, from+1)
	}
	n := signAt(rest)
	if n == 0 {
		panic(wrongAt(from))
	}
	return r.add(api.TokOp, from, from+n)
}

// add takes up a token whose Text is its bytes, and is where it ends.
func (r *reader) add(kind, from, to int) int {
	r.tokens = append(r.tokens, api.Token{Kind: kind, From: from, To: to, Text: r.src[from:to]})
	return to
}

// endLine takes up the TokSemi of a line's end at the byte number, if the last token asks for one.
func (r *reader) endLine(at int) {
	if n := len(r.tokens); n > 0 && endsStatement(r.tokens[n-1]) {
		r.tokens = append(r.tokens, api.Token{Kind: api.TokSemi, From: at, To: at, Text: lineEnd})
	}
}

// endsStatement tells whether a line's end behind the token stands for a `;`.
func endsStatement(t api.Token) bool {
	switch t.Kind {
	case api.TokIdent, api.TokInt, api.TokStr:
		return true
	case api.TokWord:
		return t.Text == "break" || t.Text == "continue" || t.Text == "return"
	case api.TokOp:
		switch t.Text {
		case "++", "--", ")", "]", "}":
			return true
		}
	}
	return false
}

// name reads an identifier or a word.
func (r *reader) name(from int) int {
	n := runOf(r.src[from:], letterOrDigit)
	if n > api.MaxName {
		panic(wrongAt(from))
	}
	kind := api.TokIdent
	if Word(r.src[from : from+n]) {
		kind = api.TokWord
	}
	return r.add(kind, from, from+n)
}

// number reads an int.
func (r *reader) number(from int) int {
	rest := r.src[from:]
	n := runOf(rest, digit)
	if n > api.MaxDigits || n > 1 && rest[0] == '0' {
		panic(wrongAt(from))
	}
	if n < len(rest) && letter(rune(rest[n])) {
		panic(wrongAt(from))
	}
	return r.add(api.TokInt, from, from+n)
}

// quoted reads a string.
func (r *reader) quoted(from int) int {
	var said strings.Builder
	escaped := false
text:
	for i, c := range r.src[from+1:] {
		at := from + 1 + i
		switch {
		case escaped:
			escaped = false
		case c == '\\':
			said.WriteByte(r.escape(at))
			escaped = true
		case c == '"':
			r.tokens = append(r.tokens, api.Token{Kind: api.TokStr, From: from, To: at + 1, Text: said.String()})
			return at + 1
		case c == '\n':
			break text
		default:
			said.WriteRune(c)
		}
	}
	panic(wrongAt(from))
}

// escape is the byte that the escape at the byte number stands for.
func (r *reader) escape(at int) byte {
	n := -1
	if at+1 < len(r.src) {
		n = strings.IndexByte(escapeLetters, r.src[at+1])
	}
	if n < 0 {
		panic(wrongAt(at))
	}
	return escapeBytes[n]
}

// shortRemark reads a remark that ends ahead of its line's end.
func (r *reader) shortRemark(from int) int {
	n := strings.Index(r.src[from:], lineEnd)
	if n < 0 {
		n = len(r.src) - from
	}
	r.remarks = append(r.remarks, api.Span{From: from, To: from + n})
	return from + n
}

// longRemark reads a remark that ends with a sign of its own.
func (r *reader) longRemark(from int) int {
	// Looked for behind the opening, whose `*` is no part of the end.
	inner, _, ended := strings.Cut(r.src[from+2:], "*/")
	if !ended {
		panic(wrongAt(from))
	}
	if strings.Contains(inner, lineEnd) {
		r.endLine(from)
	}
	to := from + 2 + len(inner) + 2
	r.remarks = append(r.remarks, api.Span{From: from, To: to})
	return to
}

// signAt is how many bytes the longest sign has that s begins with; 0, if there is none.
func signAt(s string) int {
	var second byte
	if len(s) > 1 {
		second = s[1]
	}
	switch s[0] {
	case '.':
		if strings.HasPrefix(s, "...") {
			return 3
		}
		return 1
	case '&', '|':
		if second == s[0] {
			return 2
		}
		return 1
	case '+':
		if second == '+' || second == '=' {
			return 2
		}
		return 1
	case '-', '<':
		if second == '-' {
			return 2
		}
		fallthrough
	case '*', '/', '%', '!', '=', '>', ':':
		if second == '=' {
			return 2
		}
		fallthrough
	case '(', ')', '[', ']', '{', '}', ',':
		return 1
	}
	return 0
}
