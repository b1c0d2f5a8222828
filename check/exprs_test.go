package check_test

import (
	"strings"
	"testing"

	"recast/api"
)

func TestIdents(t *testing.T) {
	differ(t, "identifiers", asValue,
		pair{"int", "i"}, pair{"M", "m"}, pair{"any", "e"}, pair{"print", "f"}, pair{"id", "one"}, pair{"nil", "v"}, pair{"(nil)", "(p)"}, pair{"less", "none"}, pair{"comparable", "true"}, pair{"M.m", "k"}, pair{"one()()", "one()"}, pair{"id[int]", "id[int](1)"}, pair{"int(1)()", "int(1)"})
	differ(t, "identifiers of packages", abroad,
		pair{"_ = b.S", "_ = b.V"}, pair{"_ = b.G", "_ = b.F"}, pair{"_ = b.G[int]", "_ = b.G[int](1)"}, pair{"b.C = 1", "b.V = b.C"}, pair{"b.F = b.F", "b.V++"}, pair{"_ = &b.C", "_ = &b.V"}, pair{"const c = b.V", "const c = b.C"}, pair{"var x int = b.D; _ = x", "var x b.S2 = b.D; _ = x"})
}

func TestConstants(t *testing.T) {
	most := "13407807929942597099574024998205846127479365820592393377723561443721764030073546976801874298166903427690031858186486050853753882811946569946433649006084095"
	beyond := "13407807929942597099574024998205846127479365820592393377723561443721764030073546976801874298166903427690031858186486050853753882811946569946433649006084096"
	differ(t, "great ints", beside,
		pair{"const x = " + beyond, "const x = " + most}, pair{"const x = " + most + " + 1", "const x = " + most + " - 1"}, pair{"const x = " + strings.Repeat("9", 200), "const x = " + strings.Repeat("9", 154)}, pair{"const x = " + most + " * 2", "const x = " + most + " / 2"}, pair{"const x = -" + most + " - 1", "const x = -" + most})
	differ(t, "values of constants", asValue,
		pair{"9223372036854775808", "9223372036854775807"}, pair{"-9223372036854775809", "-9223372036854775808"}, pair{"big", "big - 1"}, pair{"-big - 1", "-big"}, pair{"big * 1", "big / big"}, pair{"big + i", "big == 1"}, pair{"i == big", "i == big - 1"}, pair{"big < i", "big < 1"}, pair{"int(big)", "int(-big)"}, pair{"M(big)", "M(big - 1)"},
		pair{"any(big)", "any(big - 1)"}, pair{"id(big)", "id(big - 1)"}, pair{"[]int{big}", "[]int{-big}"}, pair{"[]any{big}", "[]any{big / 2}"}, pair{"a[big]", "a[big / 2]"}, pair{"kt * 9223372036854775807", "kt * 1"}, pair{"-M(-big)", "-M(big - 1)"}, pair{"M(big - 1) + 1", "M(big - 1) - 1"}, pair{"kt + big", "kt == 5"}, pair{"len(ks) + big", "len(ks) + 1"},
		pair{"1 / 0", "0 / 1"}, pair{"1 % 0", "0 % 1"}, pair{"i / 0", "i / 1"}, pair{"i % 0", "i % 1"}, pair{"i / (1 - 1)", "i / (1 - 2)"}, pair{"m / M(0)", "m / M(1)"}, pair{"i / len(\"\")", "i / len(\"a\")"}, pair{"kt / 0", "0 / kt"}, pair{"i % -0", "i % -1"}, pair{"1 + \"a\"", "\"a\" + \"a\""}, pair{"true + true", "true && true"}, pair{"\"a\" - \"a\"", "\"a\" < \"b\""},
		pair{"1 && 2", "1 == 2"}, pair{"true < false", "true == false"}, pair{"-\"a\"", "-1"}, pair{"!1", "!true"}, pair{"-true", "!!true"}, pair{"1 == true", "(1 == 1) == true"}, pair{"\"1\" == 1", "\"1\" == \"1\""}, pair{"nil == 1", "e == 1"}, pair{"nil == nil", "e == nil"}, pair{"[]bool{big}", "[]bool{big > 1}"})
	differ(t, "what is printed of constants", printed, pair{"big", "big / 2"}, pair{"1, big", "1, -big"}, pair{"(big)", "(1)"}, pair{"-big - 1", "big - 1"}, pair{"big == big, big", "big == big, big != big + 1"}, pair{"nil", "true"})
	differ(t, "great strings", func(s string) []api.File {
		return files("main/a.gc", "package main; "+s+"; func main() {}", "main/b.gc", "package main; const half = \""+strings.Repeat("a", 32768)+"\"")
	},
		pair{"const x = half + half + \"b\"", "const x = half + half"}, pair{"var x = \"b\" + (half + half)", "var x = half + \"b\""}, pair{"const x = (half + \"b\") + half", "const x = len(half + half)"})
	differ(t, "constants", beside,
		pair{"const x = i", "const x = 1"}, pair{"const x = one()", "const x = k"}, pair{"const x = nil", "const x = kt"}, pair{"const x = []int{1}", "const x = len(\"abc\")"}, pair{"const x = len(s)", "const x = len(ks + \"d\")"}, pair{"const x = a[0]", "const x = -k"}, pair{"const x = ks[0]", "const x = ks"}, pair{"const x = any(1)", "const x = int(1)"}, pair{"const x = func() {}", "const x = !true"},
		pair{"const x = i == i", "const x = k == k"}, pair{"const x = i == 1", "const x = kt == 1"}, pair{"const x = b && true", "const x = kb && true"}, pair{"const x = id(1)", "const x = M(1)"}, pair{"const x = &k", "const x = (k)"}, pair{"const x = pair()", "const x = k + 1"}, pair{"const x = none()", "const x = \"a\""}, pair{"const x = int", "const x = big"}, pair{"const x = none", "const x = kb"},
		pair{"const x any = 1", "const x M = 1"}, pair{"const x I = kt", "const x M = kt"}, pair{"const x L = nil", "const x N = \"a\""}, pair{"const x *int = nil", "const x B = true"}, pair{"const x int = kt", "const x int = k"}, pair{"const x int = \"a\"", "const x string = \"a\""}, pair{"const x bool = 1", "const x bool = 1 == 1"}, pair{"const x int = big", "const x int = big - 1"}, pair{"const x M = big", "const x M = -big"},
		pair{"const x M = int(1)", "const x M = M(int(1))"}, pair{"const x B = b", "const x B = kt < 6"}, pair{"const x string = n", "const x string = ks"}, pair{"const x N = string(ks)", "const x N = N(ks)"}, pair{"const x = M(big - 1) + 1 - 1", "const x = M(big - 1) - 1 + 1"}, pair{"const x = M(big - 1) * 2 > 1", "const x = (big - 1) * 2 > 1"}, pair{"const x = -M(-big) > 0", "const x = -(-big) > 0"}, pair{"const x = len(ks) * big / big", "const x = 3 * big / big"}, pair{"const x = x", "const x = 1"}, pair{"const x = y; const y = x", "const x = y; const y = 1"}, pair{"const x = 1 + y; const y int = 2 * z2; const z2 = len(w2); const w2 = ks + v2; const v2 = N(\"a\") + N(x)", "const x = 1 + y; const y int = 2 * z2; const z2 = len(w2); const w2 = ks + v2; const v2 = \"a\""},
		pair{"const x = len(ks) / (k - 5)", "const x = len(ks) / (k - 4)"}, pair{"const x = true && y; const y = !x", "const x = true && y; const y = !false"}, pair{"const x = len(y); var y = \"a\"", "const x = len(y); const y = \"a\""})
	differ(t, "constants of a function", inMain, pair{"const x = i; _ = x", "const x = 1; _ = x"}, pair{"const x = x", "const x = k"}, pair{"const i = i", "const k = k; const l = k"}, pair{"const x int = kt", "const x M = kt"}, pair{"const x = big; _ = x", "const x = big"}, pair{"x := 1; const y = x", "const x = 1; const y = x + k"}, pair{"const k string = k", "const k int = k"})
	differ(t, "constants of packages", abroad, pair{"const x = b.V", "const x = b.C"}, pair{"const x int = b.D", "const x b.S2 = b.D"}, pair{"const x = b.F(1)", "const x = b.S2(1)"})
}

func TestSigns(t *testing.T) {
	differ(t, "signs", asValue,
		pair{"i + s", "i + i"}, pair{"i + m", "i + int(m)"}, pair{"m + n", "m + m"}, pair{"m + i", "m + 1"}, pair{"s + n", "n + \"a\""}, pair{"b + b", "s + s"}, pair{"e + e", "e == e"}, pair{"p + p", "p == p"}, pair{"a + a", "a == nil"}, pair{"t + t", "u == u"}, pair{"s - s", "i - i"}, pair{"s * 2", "i * 2"}, pair{"n / n", "m / m"}, pair{"b % b", "m % 2"}, pair{"\"a\" * i", "3 * i"},
		pair{"i && i", "b && b"}, pair{"b && 1", "b && true"}, pair{"bb && b", "bb && bb"}, pair{"bb || b", "bb || i == i"}, pair{"b || bb", "i == i || bb"}, pair{"b && e", "b == e"}, pair{"s && s", "s < s"}, pair{"b < b", "i < i"}, pair{"p < p", "n < n"}, pair{"e < e", "m < 3"}, pair{"u < u", "\"a\" < s"}, pair{"nil < nil", "1 < m"}, pair{"a < a", "s >= \"a\""},
		pair{"i == s", "i == j"}, pair{"i == m", "i == 3"}, pair{"m == 1 == 2", "m == 1 == true"}, pair{"i == nil", "p == nil"}, pair{"s == nil", "nil != p"}, pair{"t == t", "o == o"}, pair{"z == z", "u != U{}"}, pair{"a == a", "nil == a"}, pair{"f == f", "f != nil"}, pair{"f == g", "g == nil"}, pair{"t == nil", "c == nil"}, pair{"1 == nil", "e == nil"}, pair{"b == nil", "v != nil"}, pair{"m == nil", "q == nil"}, pair{"k == nil", "l == nil"},
		pair{"p == e2", "p == e"}, pair{"e == a", "e == u"}, pair{"e == f", "e == p"}, pair{"e == z", "e == o"}, pair{"v == t", "v == u"}, pair{"v == s", "v == m"}, pair{"v == 1", "e == 1"}, pair{"w == u", "w == p"}, pair{"v == e2", "v == w"}, pair{"p == &i", "p == &t"}, pair{"p == u", "q == p"}, pair{"c == cc2", "c == cc"}, pair{"(i == j) == i", "(i == j) == b"}, pair{"(i == j) + 1", "(i == j) == (s < s)"}, pair{"(i == j) < b", "(i == j) != bb"}, pair{"a == l", "c == C(nil)"},
		pair{"-s", "-i"}, pair{"-b", "-m"}, pair{"-e", "-k"}, pair{"-p", "-kt"}, pair{"-a", "-(-i)"}, pair{"!i", "!b"}, pair{"!s", "!bb"}, pair{"!e", "!(i == j)"}, pair{"!nil", "!!kb"}, pair{"!p", "!true"},
		pair{"*i", "*p"}, pair{"*t", "*q"}, pair{"*nil", "*&i"}, pair{"*e", "**&p"}, pair{"*a", "*new(int)"}, pair{"*1", "(*p).x"}, pair{"*c", "*(p.n)"}, pair{"<-i", "<-c"}, pair{"<-a", "<-cc"}, pair{"<-nil", "<-make(chan int)"}, pair{"<-e", "-<-c"}, pair{"<-p", "<-(c)"},
		pair{"&1", "&i"}, pair{"&k", "&t"}, pair{"&one", "&f"}, pair{"&one()", "&t.x"}, pair{"&nil", "&e"}, pair{"&true", "&b"}, pair{"&(i + 1)", "&(i)"}, pair{"&s[0]", "&a[0]"}, pair{"&T{}.x", "&(&T{}).x"}, pair{"&m.m", "&p.x"}, pair{"&-i", "&*p"}, pair{"&<-c", "&l[1]"}, pair{"&int(i)", "&T{}"}, pair{"&e.(int)", "&(T{})"}, pair{"&func() {}", "&((L{1}))"}, pair{"&(&i)", "&[]int{}"}, pair{"&M", "&m"},
		pair{"&T{}.U", "&p.U.p"}, pair{"&T{}.n", "&[]T{T{}}[0].U.p"}, pair{"&T{}.U.p", "&T{}.n.x"}, pair{"&(one)()", "&((*p).n.U)"}, pair{"&\"abc\"[1]", "&append(a, 1)[1]"})
	differ(t, "signs of packages", abroad, pair{"_ = s == 1", "_ = s == b.S{}"}, pair{"_ = s == w", "_ = s == b.S(t)"}, pair{"_ = b.U == w", "_ = b.U == b.I(nil)"}, pair{"_ = b.U == b.D", "_ = b.U == b.K(s)"}, pair{"_ = b.D + 1 + b.C2", "_ = b.D + b.C"}, pair{"_ = b.D + b.V", "_ = int(b.D) + b.V"})
}
