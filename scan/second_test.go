package scan_test

import (
	"math/rand/v2"
	"regexp"
	"strconv"
	"strings"
	"testing"
	"unicode/utf8"

	"recast/api"
)

// A second reading of sources, by patterns, in the order and the words of chapter 3: what scan tells is held against it.
var (
	blank      = regexp.MustCompile(`^[ \t\r\n]`)
	remark     = regexp.MustCompile(`^(//[^\n]*|(?s:/\*.*?\*/))`)
	openRemark = regexp.MustCompile(`^/\*`)
	name       = regexp.MustCompile(`^[a-zA-Z_][a-zA-Z_0-9]*`)
	number     = regexp.MustCompile(`^[0-9]+`)
	goodNumber = regexp.MustCompile(`^(0|[1-9][0-9]{0,199})$`)
	inString   = regexp.MustCompile(`^"([^"\\\n]|\\[\\"nt])*`)
	asksSemi   = regexp.MustCompile(`^(\+\+|--|[)\]}])$`)
)

const words = "break case chan const continue default defer else fallthrough for func go goto if import interface map package range return select struct switch type var"

const signs = "+ - * / % & ! = < > ( ) [ ] { } , . : | && || == != <= >= := += -= *= /= %= ++ -- <- ..."

// oneOf is whether s is one of a row of texts.
func oneOf(s, row string) bool {
	for _, x := range strings.Fields(row) {
		if s == x {
			return true
		}
	}
	return false
}

// longestSign is the longest sign that s begins with.
func longestSign(s string) string {
	longest := ""
	for _, x := range strings.Fields(signs) {
		if strings.HasPrefix(s, x) && len(x) > len(longest) {
			longest = x
		}
	}
	return longest
}

// reading is what a second reading has found.
type reading struct {
	tokens  []api.Token
	remarks []api.Span
	fault   api.Fault
}

// semi adds the TokSemi of a line's end.
func (r *reading) semi(at int) {
	if len(r.tokens) == 0 {
		return
	}
	last := r.tokens[len(r.tokens)-1]
	asks := last.Kind == api.TokIdent || last.Kind == api.TokInt || last.Kind == api.TokStr
	asks = asks || last.Kind == api.TokWord && oneOf(last.Text, "break continue return")
	asks = asks || last.Kind == api.TokOp && asksSemi.MatchString(last.Text)
	if asks {
		r.tokens = append(r.tokens, api.Token{Kind: api.TokSemi, From: at, To: at, Text: "\n"})
	}
}

// next reads one thing at a byte number, and is how many bytes it has and which byte is wrong (-1: none).
func (r *reading) next(src string, at int) (n, wrong int) {
	rest := src[at:]
	add := func(kind int, s, text string) (int, int) {
		r.tokens = append(r.tokens, api.Token{Kind: kind, From: at, To: at + len(s), Text: text})
		return len(s), -1
	}
	if s := remark.FindString(rest); s != "" {
		if strings.Contains(s, "\n") {
			r.semi(at)
		}
		r.remarks = append(r.remarks, api.Span{From: at, To: at + len(s)})
		return len(s), -1
	}
	if s := name.FindString(rest); s != "" && len(s) <= 60 {
		if oneOf(s, words) {
			return add(api.TokWord, s, s)
		}
		return add(api.TokIdent, s, s)
	}
	if s := number.FindString(rest); goodNumber.MatchString(s) && !name.MatchString(rest[len(s):]) {
		return add(api.TokInt, s, s)
	}
	if s := inString.FindString(rest); s != "" {
		if behind := rest[len(s):]; strings.HasPrefix(behind, `\`) {
			return 0, at + len(s)
		} else if !strings.HasPrefix(behind, `"`) {
			return 0, at
		}
		text, err := strconv.Unquote(strings.ReplaceAll(s+`"`, "\r", `\r`))
		if err != nil {
			panic(err)
		}
		return add(api.TokStr, s+`"`, text)
	}
	if rest[0] == ';' {
		return add(api.TokSemi, ";", ";")
	}
	if s := longestSign(rest); s != "" && !openRemark.MatchString(rest) {
		return add(api.TokOp, s, s)
	}
	return 0, at
}

// second is the second reading of a source.
func second(src string) reading {
	if len(src) > 65536 || !utf8.ValidString(src) || strings.Contains(src, "\x00") {
		return reading{fault: api.Fault{Code: api.FaultText}}
	}
	r := reading{}
	for at := 0; at < len(src); {
		if blank.MatchString(src[at:]) {
			if src[at] == 10 {
				r.semi(at)
			}
			at++
			continue
		}
		n, wrong := r.next(src, at)
		if wrong >= 0 {
			return reading{fault: api.Fault{Code: api.FaultScan, At: wrong}}
		}
		at += n
	}
	r.semi(len(src))
	r.tokens = append(r.tokens, api.Token{Kind: api.TokEnd, From: len(src), To: len(src)})
	return r
}

// pieces are what sources of these tests are made of: each thing that chapter 3 names, and what it does not.
func pieces() []string {
	l := append(strings.Fields(signs), "break", "return", "continue", "for", "fallthrough", "goto", "fo")
	l = append(l, " ", "\t", "\r", "\n", "//", "/*", "*/", "*", "/", "a", "Z", "_", "z9", "0", "1", "9", "12", `"`, `\`, `\\`, `\"`, `\n`, `\t`, `\q`, "n", "t", `"s"`, `""`)
	return append(l, ";", "é", "\u00a0", "\u2028", "\ufeff", "\ufffd", "\U0001f600", "#", "'", "`", "^", "@", "$", "?", "~", "\x0b", "\x0c", "\x01", "\x7f", "\x00", "\xff", "\xc3", "/* 1\n*/", "// r\n", "٣", "ª")
}

// rows calls see with sources of pieces: all of at most two, and many longer ones.
func rows(t *testing.T, see func(src string)) {
	t.Helper()
	l := pieces()
	see("")
	for _, a := range l {
		see(a)
		for _, b := range l {
			see(a + b)
			see("x" + a + b + "y")
		}
	}
	random := rand.New(rand.NewPCG(3, 14))
	// Most pieces of the second row may stand anywhere, so that its sources are read to their end.
	tame := strings.Split(`a|b1|_|0|12|"s"|"\\\n"|;|+|++|-|--|)|]|}|(|[|{|.|...|:=|<-|=|!|&|,|break|return|continue|for|func|// r`+"\n"+`|/* r */|/* r`+"\n"+`*/| |`+"\t"+`|`+"\r\n"+`|`+"\n"+`|"é"|//|"//"|/* " */`, "|")
	for range 60000 {
		var wild, mild strings.Builder
		for range 3 + random.IntN(6) {
			wild.WriteString(l[random.IntN(len(l))])
		}
		for range 2 + random.IntN(12) {
			mild.WriteString(tame[random.IntN(len(tame))])
			if random.IntN(3) > 0 {
				mild.WriteByte(' ')
			}
		}
		see(wild.String())
		see(mild.String())
	}
}
