package spans_test

import (
	"math"
	"strings"
	"testing"

	"recast/spans"
)

// texts calls see with every text of at most n of the letters.
func texts(n int, letters []string, see func(s string)) {
	var grow func(s string, n int)
	grow = func(s string, n int) {
		see(s)
		if n == 0 {
			return
		}
		for _, x := range letters {
			grow(s+x, n-1)
		}
	}
	grow("", n)
}

// far are ints that are a place of no text of these tests.
var far = []int{math.MinInt, math.MinInt + 1, -1 << 32, 1 << 32, math.MaxInt - 1, math.MaxInt}

func TestValid(t *testing.T) {
	for _, s := range []string{"", "a", "aé", "\n\t\r", "\x01\x7f", "\ufffd", "a\ufffdb", "€", "\U0001f600", "\U0010ffff", "\ud7ff\ue000"} {
		if !spans.Valid(s) {
			t.Errorf("P1.1: Valid(%q) is false", s)
		}
	}
	for _, s := range []string{"\x00", "a\x00", "\x00a", "é\x00é", "\xff", "a\xff", "\xc3", "\xc3a", "\x80", "\xc0\x80", "\xc1\xbf", "\xe0\x80\xaf", "\xed\xa0\x80", "\xed\xbf\xbf", "\xf4\x90\x80\x80", "\xf0\x9f\x98", "\ufffd\xff", "\xef\xbf"} {
		if spans.Valid(s) {
			t.Errorf("P1.1: Valid(%q) is true", s)
		}
	}
}

// place is Place, as the document words it.
func place(s string, at int) (line, col int) {
	ahead := s[:max(0, min(at, len(s)))]
	return 1 + strings.Count(ahead, "\n"), 1 + len(ahead) - (strings.LastIndex(ahead, "\n") + 1)
}

func TestPlace(t *testing.T) {
	for _, x := range []struct {
		s             string
		at, line, col int
	}{
		{"ab\nc", 0, 1, 1}, {"ab\nc", 2, 1, 3}, {"ab\nc", 3, 2, 1}, {"ab\nc", 4, 2, 2}, {"ab\nc", 99, 2, 2}, {"ab\nc", -5, 1, 1},
		{"", 0, 1, 1}, {"", 7, 1, 1}, {"\n", 0, 1, 1}, {"\n", 1, 2, 1}, {"a\n\n", 2, 2, 1}, {"a\n\n", 3, 3, 1},
		{"éé", 1, 1, 2}, {"éé", 4, 1, 5}, {"\xff\n\xc3\nx", 4, 3, 1}, {"a\r\nb", 2, 1, 3}, {"a\x00\nb", 3, 2, 1},
	} {
		if line, col := spans.Place(x.s, x.at); line != x.line || col != x.col {
			t.Errorf("P1.1: Place(%q, %d) is %d, %d; want %d, %d", x.s, x.at, line, col, x.line, x.col)
		}
	}
	texts(4, []string{"a", "\n", "é", "\xe2", "\x00"}, func(s string) {
		check := func(at int) {
			line, col := spans.Place(s, at)
			if l, c := place(s, at); line != l || col != c {
				t.Fatalf("P1.1: Place(%q, %d) is %d, %d; want %d, %d", s, at, line, col, l, c)
			}
		}
		for at := -2; at <= len(s)+2; at++ {
			check(at)
		}
		for _, at := range far {
			check(at)
		}
	})
}

func TestOffset(t *testing.T) {
	for _, x := range []struct {
		s             string
		line, col, at int
		ok            bool
	}{
		{"ab\nc", 1, 1, 0, true}, {"ab\nc", 1, 3, 2, true}, {"ab\nc", 1, 4, 0, false}, {"ab\nc", 1, 9, 0, false}, {"ab\nc", 2, 1, 3, true}, {"ab\nc", 2, 2, 4, true},
		{"ab\nc", 2, 3, 0, false}, {"ab\nc", 3, 1, 0, false}, {"ab\nc", 0, 1, 0, false}, {"ab\nc", 1, 0, 0, false}, {"ab\nc", -1, -1, 0, false},
		{"ab\nc\n", 3, 1, 5, true}, {"ab\nc\n", 3, 2, 0, false}, {"", 1, 1, 0, true}, {"", 1, 2, 0, false}, {"", 2, 1, 0, false}, {"é\n", 1, 3, 2, true},
	} {
		if at, ok := spans.Offset(x.s, x.line, x.col); at != x.at || ok != x.ok {
			t.Errorf("P1.1: Offset(%q, %d, %d) is %d, %v; want %d, %v", x.s, x.line, x.col, at, ok, x.at, x.ok)
		}
	}
	texts(5, []string{"a", "\n", "é"}, func(s string) {
		known := map[[2]int]int{}
		for at := 0; at <= len(s); at++ {
			line, col := place(s, at)
			known[[2]int{line, col}] = at
		}
		check := func(line, col int) {
			want, there := known[[2]int{line, col}]
			if at, ok := spans.Offset(s, line, col); at != want || ok != there {
				t.Fatalf("P1.1: Offset(%q, %d, %d) is %d, %v; want %d, %v", s, line, col, at, ok, want, there)
			}
		}
		for line := -1; line <= 8; line++ {
			for col := -1; col <= 13; col++ {
				check(line, col)
			}
		}
		for _, n := range far {
			check(n, 1)
			check(1, n)
			check(2, n)
			check(n, n)
		}
	})
}

// indent is Indent, as the document words it.
func indent(s string, at int) string {
	line, _ := place(s, at)
	text := strings.Split(s, "\n")[line-1]
	n := 0
	for n < len(text) && (text[n] == 32 || text[n] == 9) {
		n++
	}
	return text[:n]
}

func TestIndent(t *testing.T) {
	for _, x := range []struct {
		s    string
		at   int
		want string
	}{
		{"a\n \tb c", 6, " \t"}, {"a\n \tb c", 2, " \t"}, {"a\n \tb c", 3, " \t"}, {"a\n \tb c", 1, ""}, {"a\n \tb c", 99, " \t"},
		{"  ", 0, "  "}, {"  ", 1, "  "}, {"  ", 2, "  "}, {"ab", 9, ""}, {"\n  x", 0, ""}, {"\n  x", 1, "  "}, {"  x\n", -4, "  "}, {"  x\n", 3, "  "}, {"  x\n", 4, ""},
		{"", 0, ""}, {" \n\t", 0, " "}, {" \n\t", 1, " "}, {" \n\t", 2, "\t"}, {"\r x", 3, ""}, {" \r x", 3, " "}, {"\u00a0x", 2, ""}, {" \v x", 3, " "}, {"\t\xffx", 2, "\t"},
	} {
		if got := spans.Indent(x.s, x.at); got != x.want {
			t.Errorf("P1.2: Indent(%q, %d) is %q; want %q", x.s, x.at, got, x.want)
		}
	}
	texts(5, []string{"a", "\n", " ", "\t", "\r"}, func(s string) {
		check := func(at int) {
			if got, want := spans.Indent(s, at), indent(s, at); got != want {
				t.Fatalf("P1.2: Indent(%q, %d) is %q; want %q", s, at, got, want)
			}
		}
		for at := -2; at <= len(s)+2; at++ {
			check(at)
		}
		for _, at := range far {
			check(at)
		}
	})
}
