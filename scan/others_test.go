package scan_test

import (
	"math/rand/v2"
	"slices"
	"strings"
	"testing"

	"recast/api"
	"recast/scan"
	"recast/spans"
)

func TestWord(t *testing.T) {
	l := strings.Fields(words)
	if len(l) != 25 {
		t.Fatalf("%d words", len(l))
	}
	for _, w := range l {
		if !scan.Word(w) {
			t.Errorf("P3.1: Word(%q) is false", w)
		}
		for _, s := range []string{w[:len(w)-1], w[1:], w + "s", " " + w, w + " ", w + "\n", strings.ToUpper(w[:1]) + w[1:], w + w} {
			if scan.Word(s) && !oneOf(s, words) {
				t.Errorf("P3.1: Word(%q) is true", s)
			}
		}
	}
	for _, s := range []string{"", " ", "int", "string", "bool", "true", "nil", "iota", "make", "print", "any", "error", "a", "_", "é", "\xff", words} {
		if scan.Word(s) {
			t.Errorf("P3.1: Word(%q) is true", s)
		}
	}
}

func TestIdent(t *testing.T) {
	long := strings.Repeat("a", api.MaxName)
	for _, s := range []string{"a", "z", "A", "Z", "_", "__", "a_9", "a0", "Z_z", "_0", "x1y2", "For", "forx", "int", "nil", "true", long, "_" + strings.Repeat("9", api.MaxName-1)} {
		if !scan.Ident(s) {
			t.Errorf("P3.1: Ident(%q) is false", s)
		}
	}
	for _, s := range []string{"", "9a", "0", "9", "é", "aé", "a b", " a", "a ", "a\n", "a.b", "a-", "-a", "a\x00", "\xff", "a\xff", "aª", "a٣", "ａ", "\U0001f600", long + "a", strings.Repeat("a", 1<<20), "a" + strings.Repeat("é", 30)} {
		if scan.Ident(s) {
			t.Errorf("P3.1: Ident(%q) is true", s)
		}
	}
	for _, w := range strings.Fields(words) {
		if scan.Ident(w) || !scan.Ident(w+"_") {
			t.Errorf("P3.1: Ident of %q or of %q", w, w+"_")
		}
	}
	for c := range 256 {
		b := byte(c)
		isLetter := strings.IndexByte("abcdefghijklmnopqrstuvwxyzABCDEFGHIJKLMNOPQRSTUVWXYZ_", b) >= 0
		isDigit := strings.IndexByte("0123456789", b) >= 0
		if got := scan.Ident(string([]byte{b})); got != isLetter {
			t.Errorf("P3.1: Ident of the byte %d is %v", c, got)
		}
		if got := scan.Ident(string([]byte{'a', b, 'a'})); got != (isLetter || isDigit) {
			t.Errorf("P3.1: Ident of a, the byte %d and a is %v", c, got)
		}
	}
}

// An Ident is just what is one TokIdent that ends where the source does.
func TestIdentIsToken(t *testing.T) {
	rows(t, func(src string) {
		l, _ := scan.Tokens(src)
		one := len(l) == 3 && l[0].Kind == api.TokIdent && l[0].From == 0 && l[0].To == len(src)
		if got := scan.Ident(src); got != one {
			t.Fatalf("P3.1, P3.2: Ident(%q) is %v, its tokens are %v", src, got, l)
		}
	})
}

func TestComments(t *testing.T) {
	for _, x := range []struct {
		src  string
		want []api.Span
	}{
		{"", nil}, {"a", nil}, {`"// a" "/* b */"`, nil}, {"a / b", nil},
		{"a // b\n/* c\n*/d//", []api.Span{{From: 2, To: 6}, {From: 7, To: 14}, {From: 15, To: 17}}},
		{"//a\r\n//b", []api.Span{{From: 0, To: 4}, {From: 5, To: 8}}}, {"/**//**/", []api.Span{{From: 0, To: 4}, {From: 4, To: 8}}},
		{"// é", []api.Span{{From: 0, To: 5}}}, {"/* // */ // /*", []api.Span{{From: 0, To: 8}, {From: 9, To: 14}}}, {"// a // b", []api.Span{{From: 0, To: 9}}},
		{"// a\n#", nil}, {"/* a */ \"", nil}, {"// a\n/*", nil}, {"// a\n01", nil}, {"// \x00", nil}, {"// \xff", nil}, {"//" + strings.Repeat(" ", api.MaxBytes), nil},
		{"//" + strings.Repeat(" ", api.MaxBytes-2), []api.Span{{From: 0, To: api.MaxBytes}}},
	} {
		if got := scan.Comments(x.src); !slices.Equal(got, x.want) {
			t.Errorf("P3.5: Comments(%.40q) is %v, want %v", x.src, got, x.want)
		}
	}
}

func TestQuote(t *testing.T) {
	for _, x := range [][2]string{
		{"", `""`}, {"a", `"a"`}, {"a\"\\\n\té", `"a\"\\\n\té"`}, {"\r\x00\x7f", "\"\r\x00\x7f\""}, {"\xc3\n\xff", "\"\xc3\\n\xff\""}, {"\ufffd", "\"\ufffd\""},
		{`\n`, `"\\n"`}, {`""`, `"\"\""`}, {"'", `"'"`}, {"\n\n", `"\n\n"`},
	} {
		if got := scan.Quote(x[0]); got != x[1] {
			t.Errorf("P3.5: Quote(%q) is %q, want %q", x[0], got, x[1])
		}
	}
	for c := range 256 {
		s := string([]byte{byte(c)})
		want := s
		switch s {
		case "\\", "\"":
			want = `\` + s
		case "\n":
			want = `\n`
		case "\t":
			want = `\t`
		}
		if got := scan.Quote(s); got != `"`+want+`"` {
			t.Errorf("P3.5: Quote(%q) is %q", s, got)
		}
	}
}

func TestQuoteIsString(t *testing.T) {
	see := func(s string) {
		quoted := scan.Quote(s)
		tokens, fault := scan.Tokens(quoted)
		if !spans.Valid(s) {
			if fault != (api.Fault{Code: api.FaultText}) || len(tokens) > 0 {
				t.Fatalf("P3.2: Tokens(%q) is %v %v", quoted, tokens, fault)
			}
			return
		}
		end := len(quoted)
		want := []api.Token{{Kind: api.TokStr, To: end, Text: s}, {Kind: api.TokSemi, From: end, To: end, Text: "\n"}, {Kind: api.TokEnd, From: end, To: end}}
		if fault != (api.Fault{}) || !slices.Equal(tokens, want) {
			t.Fatalf("P3.6: Tokens(Quote(%q)) is %v %v", s, tokens, fault)
		}
	}
	rows(t, see)
	for c := range rune(0x3000) {
		see("a" + string(c) + "\"")
	}
}

// gaps are the bytes of a source outside its tokens and remarks; it fails where these are not in order, or share a byte.
func gaps(t *testing.T, src string, tokens []api.Token, remarks []api.Span) string {
	t.Helper()
	var out strings.Builder
	done := 0
	take := func(from, to int) {
		if from < done || to < from || to > len(src) {
			t.Fatalf("P3.6: in %q the tokens %v and remarks %v are not in order", src, tokens, remarks)
		}
		out.WriteString(src[done:from])
		done = to
	}
	for _, x := range tokens {
		for len(remarks) > 0 && remarks[0].From < x.From {
			take(remarks[0].From, remarks[0].To)
			remarks = remarks[1:]
		}
		take(x.From, x.To)
	}
	for _, x := range remarks {
		take(x.From, x.To)
	}
	return out.String() + src[done:]
}

func TestWhatIsOutside(t *testing.T) {
	rows(t, func(src string) {
		tokens, fault := scan.Tokens(src)
		if fault.Code != 0 {
			return
		}
		if s := gaps(t, src, tokens, scan.Comments(src)); strings.Trim(s, " \t\r\n") != "" {
			t.Fatalf("P3.6: outside the tokens and remarks of %q stand %q", src, s)
		}
	})
}

// bare are tokens without their places.
func bare(l []api.Token) []api.Token {
	l = slices.Clone(l)
	for i := range l {
		l[i].From, l[i].To = 0, 0
	}
	return l
}

func TestMoreBlanks(t *testing.T) {
	random := rand.New(rand.NewPCG(3, 6))
	rows(t, func(src string) {
		tokens, fault := scan.Tokens(src)
		if fault.Code != 0 {
			return
		}
		var wider strings.Builder
		done := 0
		for _, x := range tokens {
			for _, at := range []int{x.From, x.To} {
				wider.WriteString(src[done:at])
				wider.WriteString([]string{"", " ", "\t", "\r", " \t \r "}[random.IntN(5)])
				done = at
			}
		}
		got, _ := scan.Tokens(wider.String())
		if !slices.Equal(bare(got), bare(tokens)) {
			t.Fatalf("P3.6: %q has the tokens %v,\n%q has %v", src, tokens, wider.String(), got)
		}
	})
}

func TestAnswersAreNew(t *testing.T) {
	src := "a // b\n/* c */ d"
	tokens, _ := scan.Tokens(src)
	remarks := scan.Comments(src)
	clear(tokens[:cap(tokens)])
	clear(remarks[:cap(remarks)])
	if got, want := told(src), "1:0-1:a 6:6-6:~ 1:15-16:d 6:16-16:~ 7:16-16:"; got != want {
		t.Errorf("rule 3: the tokens are %s, want %s", got, want)
	}
	if got, want := scan.Comments(src), (second(src)).remarks; !slices.Equal(got, want) {
		t.Errorf("rule 3: the remarks are %v, want %v", got, want)
	}
}

// The longest sources, of what could make a reading slow.
func TestLongSources(t *testing.T) {
	for _, piece := range []string{"a ", "1 ", "/", "/*", "/**/", "//\n", `"`, `"\`, `""`, `\`, "a\n", "/*\n*/", "é", "(", "<", ".", "\"é\" ", "\n", ";"} {
		src := strings.Repeat(piece, api.MaxBytes/len(piece))
		want := second(src)
		tokens, fault := scan.Tokens(src)
		if fault != want.fault || !slices.Equal(tokens, want.tokens) {
			t.Errorf("W4: Tokens of %d times %q: %d tokens, %v, want %d, %v", api.MaxBytes/len(piece), piece, len(tokens), fault, len(want.tokens), want.fault)
		}
		if got := scan.Comments(src); !slices.Equal(got, want.remarks) {
			t.Errorf("P3.5: Comments of %d times %q: %d, want %d", api.MaxBytes/len(piece), piece, len(got), len(want.remarks))
		}
	}
}
