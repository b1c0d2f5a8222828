package scan_test

import (
	"fmt"
	"slices"
	"strings"
	"testing"

	"recast/api"
	"recast/scan"
)

// told is a source's tokens or its fault, in short: a line's end in a Text is a ~.
func told(src string) string {
	l, f := scan.Tokens(src)
	if f != (api.Fault{}) {
		return fmt.Sprintf("fault %d%s at %d, %d tokens", f.Code, f.Path, f.At, len(l))
	}
	var out []string
	for _, x := range l {
		out = append(out, fmt.Sprintf("%d:%d-%d:%s", x.Kind, x.From, x.To, strings.ReplaceAll(x.Text, "\n", "~")))
	}
	return strings.Join(out, " ")
}

// line is a source and what is told of it.
type line struct{ src, want string }

// hold holds what is told of sources against what the document asks.
func hold(t *testing.T, what string, l []line) {
	t.Helper()
	for _, x := range l {
		if got := told(x.src); got != x.want {
			t.Errorf("%s: Tokens(%q) is\n     %s\nwant %s", what, x.src, got, x.want)
		}
	}
}

// scanFault is what is told of a source that is wrong at a byte number.
func scanFault(at int) string {
	return fmt.Sprintf("fault %d at %d, 0 tokens", api.FaultScan, at)
}

const textFault = "fault 2 at 0, 0 tokens"

func TestExamples(t *testing.T) {
	hold(t, "chapter 3's examples", []line{
		{"a:=1", "1:0-1:a 5:1-3::= 2:3-4:1 6:4-4:~ 7:4-4:"},
		{"x /* 1\n*/ y", "1:0-1:x 6:2-2:~ 1:10-11:y 6:11-11:~ 7:11-11:"},
		{"f(\n)", "1:0-1:f 5:1-2:( 5:3-4:) 6:4-4:~ 7:4-4:"},
		{`"a\qb"`, scanFault(2)}, {`"a`, scanFault(0)}, {"01", scanFault(0)}, {"1a", scanFault(0)}, {"#", scanFault(0)},
	})
}

func TestTextFaults(t *testing.T) {
	most := strings.Repeat(" ", api.MaxBytes)
	hold(t, "P3.2, a text that may not be", []line{
		{most, "7:65536-65536:"}, {most + " ", textFault}, {most[1:] + "#", scanFault(api.MaxBytes - 1)}, {most + "#", textFault},
		{"#" + most, textFault}, {most[2:] + "é", scanFault(api.MaxBytes - 2)}, {most[1:] + "é", textFault},
		{"a\x00", textFault}, {"\x00", textFault}, {"#\x00", textFault}, {"// \x00", textFault}, {"\"\x00\"", textFault},
		{"a\xff", textFault}, {"# \xff", textFault}, {"/* \xc3 */", textFault}, {"\"\xed\xa0\x80\"", textFault}, {"\xc3", textFault},
	})
}

func TestBlanksAndRemarks(t *testing.T) {
	hold(t, "P3.2, blanks and remarks", []line{
		{"", "7:0-0:"}, {" \t\r\n", "7:4-4:"}, {"\v", scanFault(0)}, {"\f", scanFault(0)}, {"\u00a0", scanFault(0)}, {" \u2028", scanFault(1)}, {"\ufeff", scanFault(0)},
		{"//", "7:2-2:"}, {"// \xc3\xa9 # \" /*", "7:12-12:"}, {"//\n+", "5:3-4:+ 7:4-4:"}, {"a//\r\nb", "1:0-1:a 6:4-4:~ 1:5-6:b 6:6-6:~ 7:6-6:"},
		{"/**/", "7:4-4:"}, {"/***/", "7:5-5:"}, {"/*/*/", "7:5-5:"}, {"/* // */a", "1:8-9:a 6:9-9:~ 7:9-9:"}, {"/* \" # é */", "7:12-12:"},
		{"/* a */ */", "5:8-9:* 5:9-10:/ 7:10-10:"}, {"// a */b", "7:8-8:"}, {"a/* b */c", "1:0-1:a 1:8-9:c 6:9-9:~ 7:9-9:"},
		{"a /* b", scanFault(2)}, {"/*", scanFault(0)}, {"/*/", scanFault(0)}, {"/* *", scanFault(0)}, {"a\n/* #\n", scanFault(2)}, {"/* a */ /*", scanFault(8)},
		{"a / b", "1:0-1:a 5:2-3:/ 1:4-5:b 6:5-5:~ 7:5-5:"}, {"a /= b", "1:0-1:a 5:2-4:/= 1:5-6:b 6:6-6:~ 7:6-6:"}, {`"//"`, "3:0-4:// 6:4-4:~ 7:4-4:"},
	})
}

func TestNames(t *testing.T) {
	long := strings.Repeat("a", api.MaxName)
	hold(t, "P3.2, names", []line{
		{"a_1 _ Z9", "1:0-3:a_1 1:4-5:_ 1:6-8:Z9 6:8-8:~ 7:8-8:"}, {"For", "1:0-3:For 6:3-3:~ 7:3-3:"}, {"for", "4:0-3:for 7:3-3:"}, {"for1", "1:0-4:for1 6:4-4:~ 7:4-4:"},
		{"aé", scanFault(1)}, {"é", scanFault(0)}, {"٣", scanFault(0)}, {"aª", scanFault(1)},
		{long, "1:0-60:" + long + " 6:60-60:~ 7:60-60:"}, {long + "a", scanFault(0)}, {" " + long + "9", scanFault(1)}, {"+" + long + "a#", scanFault(1)}, {long + "+a", "1:0-60:" + long + " 5:60-61:+ 1:61-62:a 6:62-62:~ 7:62-62:"},
	})
	for _, w := range strings.Fields(words) {
		if got, want := strings.Fields(told(w))[0], fmt.Sprintf("4:0-%d:%s", len(w), w); got != want {
			t.Errorf("P3.2: the first token of %q is %s, want %s", w, got, want)
		}
	}
}

func TestInts(t *testing.T) {
	digits := strings.Repeat("1", api.MaxDigits)
	hold(t, "P3.2, ints", []line{
		{"0", "2:0-1:0 6:1-1:~ 7:1-1:"}, {"10", "2:0-2:10 6:2-2:~ 7:2-2:"}, {"9876543210", "2:0-10:9876543210 6:10-10:~ 7:10-10:"}, {"0 0", "2:0-1:0 2:2-3:0 6:3-3:~ 7:3-3:"},
		{"00", scanFault(0)}, {" 01", scanFault(1)}, {"0x1", scanFault(0)}, {"0a", scanFault(0)}, {"1_0", scanFault(0)}, {"12Z", scanFault(0)}, {"a+1b", scanFault(2)}, {"1é", scanFault(1)},
		{"1.5", "2:0-1:1 5:1-2:. 2:2-3:5 6:3-3:~ 7:3-3:"}, {"-1", "5:0-1:- 2:1-2:1 6:2-2:~ 7:2-2:"}, {`1"a"`, "2:0-1:1 3:1-4:a 6:4-4:~ 7:4-4:"},
		{digits, "2:0-200:" + digits + " 6:200-200:~ 7:200-200:"}, {digits + "1", scanFault(0)}, {"(" + digits + "0", scanFault(1)}, {digits + "a", scanFault(0)}, {digits + " 1", "2:0-200:" + digits + " 2:201-202:1 6:202-202:~ 7:202-202:"},
	})
}

func TestStrings(t *testing.T) {
	long := strings.Repeat("é", 5000)
	hold(t, "P3.2, strings", []line{
		{`""`, "3:0-2: 6:2-2:~ 7:2-2:"}, {`"a\n\t\\\"é"`, "3:0-13:a~\t\\\"é 6:13-13:~ 7:13-13:"}, {"\"\t\r\"", "3:0-4:\t\r 6:4-4:~ 7:4-4:"}, {`"'#/*"`, "3:0-6:'#/* 6:6-6:~ 7:6-6:"},
		{`"\\"`, `3:0-4:\ 6:4-4:~ 7:4-4:`}, {`"\\n"`, `3:0-5:\n 6:5-5:~ 7:5-5:`}, {`"\""`, `3:0-4:" 6:4-4:~ 7:4-4:`}, {"\"\ufffd\U0001f600\"", "3:0-9:\ufffd\U0001f600 6:9-9:~ 7:9-9:"},
		{`"a""b"`, "3:0-3:a 3:3-6:b 6:6-6:~ 7:6-6:"}, {`a"b"c`, "1:0-1:a 3:1-4:b 1:4-5:c 6:5-5:~ 7:5-5:"}, {`"` + long + `"`, "3:0-10002:" + long + " 6:10002-10002:~ 7:10002-10002:"},
		{`"`, scanFault(0)}, {`x "`, scanFault(2)}, {"\"a\n\"", scanFault(0)}, {"\"\n", scanFault(0)}, {`"a\"`, scanFault(0)}, {"\"a\\n\n\"", scanFault(0)}, {`"a" "b`, scanFault(4)},
		{`x "\`, scanFault(3)}, {`"\q"`, scanFault(1)}, {`"\r"`, scanFault(1)}, {`"\'"`, scanFault(1)}, {`"\0"`, scanFault(1)}, {`"\x41"`, scanFault(1)}, {`"\é"`, scanFault(1)}, {"\"ab\\\nc\"", scanFault(3)}, {`"\\\q"`, scanFault(3)}, {`"é\a`, scanFault(3)},
		{`"a\q`, scanFault(2)}, {"\"a\\q\n", scanFault(2)}, {"\"a\n\\q\"", scanFault(0)}, {`"a\q\r"`, scanFault(2)},
		{"'a'", scanFault(0)}, {"`a`", scanFault(0)},
	})
}

func TestSigns(t *testing.T) {
	hold(t, "P3.2, signs", []line{
		{"<-c<=...&&&|||:==!=", "5:0-2:<- 1:2-3:c 5:3-5:<= 5:5-8:... 5:8-10:&& 5:10-11:& 5:11-13:|| 5:13-14:| 5:14-16::= 5:16-17:= 5:17-19:!= 7:19-19:"},
		{"a..b", "1:0-1:a 5:1-2:. 5:2-3:. 1:3-4:b 6:4-4:~ 7:4-4:"}, {"....", "5:0-3:... 5:3-4:. 7:4-4:"}, {"+++", "5:0-2:++ 5:2-3:+ 7:3-3:"}, {"<--", "5:0-2:<- 5:2-3:- 7:3-3:"}, {"<<=", "5:0-1:< 5:1-3:<= 7:3-3:"}, {"===", "5:0-2:== 5:2-3:= 7:3-3:"},
		{"&=", "5:0-1:& 5:1-2:= 7:2-2:"}, {"|=", "5:0-1:| 5:1-2:= 7:2-2:"}, {"->", "5:0-1:- 5:1-2:> 7:2-2:"}, {"+-", "5:0-1:+ 5:1-2:- 7:2-2:"}, {"<+", "5:0-1:< 5:1-2:+ 7:2-2:"}, {"=<", "5:0-1:= 5:1-2:< 7:2-2:"}, {"!!", "5:0-1:! 5:1-2:! 7:2-2:"},
		{";;", "6:0-1:; 6:1-2:; 7:2-2:"}, {"a;\n", "1:0-1:a 6:1-2:; 7:3-3:"},
		{"^", scanFault(0)}, {"&^", scanFault(1)}, {"~", scanFault(0)}, {"a ? b", scanFault(2)}, {"@", scanFault(0)}, {"$", scanFault(0)}, {"a\\", scanFault(1)}, {"#^", scanFault(0)}, {"\x7f", scanFault(0)},
	})
	for _, x := range strings.Fields(signs) {
		if got, want := strings.Fields(told(x))[0], fmt.Sprintf("5:0-%d:%s", len(x), x); got != want {
			t.Errorf("P3.2: the first token of %q is %s, want %s", x, got, want)
		}
	}
}

func TestLineEnds(t *testing.T) {
	hold(t, "P3.3", []line{
		{"a\n\n", "1:0-1:a 6:1-1:~ 7:3-3:"}, {"a \n", "1:0-1:a 6:2-2:~ 7:3-3:"}, {"a\r\n", "1:0-1:a 6:2-2:~ 7:3-3:"}, {"a  ", "1:0-1:a 6:3-3:~ 7:3-3:"}, {"\na", "1:1-2:a 6:2-2:~ 7:2-2:"}, {"a\r", "1:0-1:a 6:2-2:~ 7:2-2:"},
		{"+\n", "5:0-1:+ 7:2-2:"}, {"a+\n\nb", "1:0-1:a 5:1-2:+ 1:4-5:b 6:5-5:~ 7:5-5:"}, {"a;", "1:0-1:a 6:1-2:; 7:2-2:"}, {"a;\n;", "1:0-1:a 6:1-2:; 6:3-4:; 7:4-4:"},
		{"a // b\nc", "1:0-1:a 6:6-6:~ 1:7-8:c 6:8-8:~ 7:8-8:"}, {"a // b", "1:0-1:a 6:6-6:~ 7:6-6:"}, {"a /* b */ // c\n", "1:0-1:a 6:14-14:~ 7:15-15:"}, {"a /* b */\n", "1:0-1:a 6:9-9:~ 7:10-10:"}, {"a /* b */", "1:0-1:a 6:9-9:~ 7:9-9:"},
		{"a/*\n*/b", "1:0-1:a 6:1-1:~ 1:6-7:b 6:7-7:~ 7:7-7:"}, {"a /*\n*/ /*\n*/", "1:0-1:a 6:2-2:~ 7:13-13:"}, {"a /* */ /*\n\n*/\n", "1:0-1:a 6:8-8:~ 7:15-15:"}, {"+ /*\n*/ b", "5:0-1:+ 1:8-9:b 6:9-9:~ 7:9-9:"}, {"/*\n*/a", "1:5-6:a 6:6-6:~ 7:6-6:"},
		{"return\nfor\nbreak", "4:0-6:return 6:6-6:~ 4:7-10:for 4:11-16:break 6:16-16:~ 7:16-16:"}, {"\"a\"\n1\n", "3:0-3:a 6:3-3:~ 2:4-5:1 6:5-5:~ 7:6-6:"}, {"\"\\n\"+\n", "3:0-4:~ 5:4-5:+ 7:6-6:"},
	})
	for _, end := range []string{"", "\n", " /*\n*/", " // r\n"} {
		for _, x := range strings.Fields(signs + " " + words) {
			asks := oneOf(x, "++ -- ) ] } break continue return")
			if got := strings.Contains(told(x+end), " 6:"); got != asks {
				t.Errorf("P3.3: whether a TokSemi comes in %q: %v", x+end, got)
			}
		}
	}
}

func TestSecondReading(t *testing.T) {
	right := 0
	rows(t, func(src string) {
		want := second(src)
		tokens, fault := scan.Tokens(src)
		if fault != want.fault || !slices.Equal(tokens, want.tokens) {
			t.Fatalf("P3.2, P3.3, P3.4: Tokens(%q) is\n     %v %v\nwant %v %v", src, tokens, fault, want.tokens, want.fault)
		}
		if got := scan.Comments(src); !slices.Equal(got, want.remarks) {
			t.Fatalf("P3.5: Comments(%q) is %v, want %v", src, got, want.remarks)
		}
		if fault.Code == 0 {
			right++
		}
	})
	if right < 50000 {
		t.Errorf("only %d of the sources have tokens", right)
	}
}
