package parse_test

import (
	"strings"
	"testing"

	"recast/api"
	"recast/parse"
	"recast/scan"
	"recast/tree"
)

func TestTypeFaults(t *testing.T) {
	see(t, "P5.1: Type", parse.Type, [][2]string{
		{"", "fault 4 at 0"}, {"  \n", "fault 4 at 3"}, {"// a", "fault 4 at 4"}, {";", "fault 4 at 0"}, {"a;;", "fault 4 at 2"}, {"a\n;", "fault 4 at 2"}, {"a b", "fault 4 at 2"}, {"a.", "fault 4 at 2"}, {"a.1", "fault 4 at 2"}, {"a.b.c", "fault 4 at 3"}, {"a[b]", "fault 4 at 1"}, {"1", "fault 4 at 0"}, {`"a"`, "fault 4 at 0"}, {"map[a]b", "fault 4 at 0"}, {"map", "fault 4 at 0"}, {"...a", "fault 4 at 0"}, {"a|b", "fault 4 at 1"}, {"a{}", "fault 4 at 1"}, {"a()", "fault 4 at 1"},
		{"*", "fault 4 at 1"}, {"*;", "fault 4 at 1"}, {"&a", "fault 4 at 0"}, {"[", "fault 4 at 1"}, {"[]", "fault 4 at 2"}, {"[3]a", "fault 4 at 1"}, {"[a]", "fault 4 at 1"}, {"chan", "fault 4 at 4"}, {"chan<- a", "fault 4 at 4"}, {"<-chan a", "fault 4 at 0"}, {"()", "fault 4 at 1"}, {"(a", "fault 4 at 2"}, {"(a,)", "fault 4 at 2"}, {"(a, b)", "fault 4 at 2"}, {"(a))", "fault 4 at 3"}, {`"("a)`, "fault 4 at 0"},
		{"func", "fault 4 at 4"}, {"func a", "fault 4 at 5"}, {"func(", "fault 4 at 5"}, {"func(,)", "fault 4 at 5"}, {"func(a", "fault 4 at 6"}, {"func(a b)", "fault 4 at 7"}, {"func(a,,)", "fault 4 at 7"}, {"func(a, b", "fault 4 at 9"}, {"func(...)", "fault 4 at 8"}, {"func(...a, b)", "fault 4 at 11"}, {"func(...a, ...b)", "fault 4 at 11"}, {"func(...a,,)", "fault 4 at 10"}, {"func(a...)", "fault 4 at 6"}, {"func(... ...a)", "fault 4 at 9"}, {"func(a, ...b, c)", "fault 4 at 14"}, {"func() ()", "fault 4 at 8"}, {"func() (,)", "fault 4 at 8"}, {"func() (a b)", "fault 4 at 10"}, {"func() (...a)", "fault 4 at 8"}, {"func() ...a", "fault 4 at 7"}, {"func() (a,,)", "fault 4 at 10"}, {"func() a b", "fault 4 at 9"}, {"func() a, b", "fault 4 at 8"}, {"func() {}", "fault 4 at 7"}, {"func() (a) b", "fault 4 at 11"}, {"func[a b]()", "fault 4 at 4"}, {"func(a\n)", "fault 4 at 6"}, {"func(a,\n)", "FuncType(Types(a) Results)"},
		{"struct", "fault 4 at 6"}, {"struct {", "fault 4 at 8"}, {"struct { ; }", "fault 4 at 9"}, {"struct { a;; }", "fault 4 at 11"}, {"struct { a, b c }", "fault 4 at 10"}, {"struct { *a }", "fault 4 at 9"}, {"struct { a b c }", "fault 4 at 13"}, {"struct { a.b c }", "fault 4 at 13"}, {"struct { a.b.c }", "fault 4 at 12"}, {"struct { a. }", "fault 4 at 12"}, {"struct { a ...b }", "fault 4 at 11"}, {"struct { a b", "fault 4 at 12"}, {"struct { a b;", "fault 4 at 13"}, {"struct { 1 }", "fault 4 at 9"}, {"struct { a \"b\" }", "fault 4 at 11"}, {"struct ( a )", "fault 4 at 7"}, {"struct { M() }", "fault 4 at 11"}, {"struct { a = b }", "fault 4 at 11"},
		{"interface", "fault 4 at 9"}, {"interface {", "fault 4 at 11"}, {"interface { ; }", "fault 4 at 12"}, {"interface { I;; }", "fault 4 at 14"}, {"interface { M(a b) }", "fault 4 at 16"}, {"interface { M(...a) }", "fault 4 at 14"}, {"interface { M(a, ...b) }", "fault 4 at 17"}, {"interface { M(,) }", "fault 4 at 14"}, {"interface { M() () }", "fault 4 at 17"}, {"interface { M() a b }", "fault 4 at 18"}, {"interface { I J }", "fault 4 at 14"}, {"interface { *I }", "fault 4 at 12"}, {"interface { a.b.c }", "fault 4 at 15"}, {"interface { a.b() }", "fault 4 at 15"}, {"interface { I|J }", "fault 4 at 13"}, {"interface { M() {} }", "fault 4 at 16"}, {"interface { M(), N() }", "fault 4 at 15"}, {"interface { M[]() }", "fault 4 at 13"}, {"interface { M( }", "fault 4 at 15"},
	})
}

func TestValueFaults(t *testing.T) {
	see(t, "P5.1: Value", parse.Value, [][2]string{
		{"", "fault 4 at 0"}, {" ", "fault 4 at 1"}, {";", "fault 4 at 0"}, {"a;;", "fault 4 at 2"}, {"a;b", "fault 4 at 2"}, {"a b", "fault 4 at 2"}, {"a 1", "fault 4 at 2"}, {"a = b", "fault 4 at 2"}, {"a := b", "fault 4 at 2"}, {"a++", "fault 4 at 1"}, {"a, b", "fault 4 at 1"}, {"a...", "fault 4 at 1"}, {"+a", "fault 4 at 0"}, {"a +", "fault 4 at 3"}, {"a + + b", "fault 4 at 4"}, {"a ! b", "fault 4 at 2"}, {"a & b", "fault 4 at 2"}, {"a | b", "fault 4 at 2"}, {"-", "fault 4 at 1"}, {"--a", "fault 4 at 0"}, {`a "+" b`, "fault 4 at 2"}, {`"-" a`, "fault 4 at 4"},
		{"a.", "fault 4 at 2"}, {"a.1", "fault 4 at 2"}, {"a..b", "fault 4 at 2"}, {"a.()", "fault 4 at 3"}, {"a.(b", "fault 4 at 4"}, {"a.(type)", "fault 4 at 3"}, {"a.(1)", "fault 4 at 3"}, {"a.(b,)", "fault 4 at 4"}, {"a.(b, c)", "fault 4 at 4"}, {"a.[b]", "fault 4 at 2"}, {"a.if", "fault 4 at 2"},
		{"()", "fault 4 at 1"}, {"(a", "fault 4 at 2"}, {"(a,)", "fault 4 at 2"}, {"(a, b)", "fault 4 at 2"}, {"(a))", "fault 4 at 3"}, {"([]a)", "fault 4 at 4"}, {"(chan a)", "fault 4 at 1"}, {"(a;)", "fault 4 at 2"},
		{"a[]", "fault 4 at 2"}, {"a[,]", "fault 4 at 2"}, {"a[b", "fault 4 at 3"}, {"a[b c]", "fault 4 at 4"}, {"a[b:c]", "fault 4 at 3"}, {"a[b...]", "fault 4 at 3"}, {"a[b,,]", "fault 4 at 4"}, {"a[b;]", "fault 4 at 3"}, {"a[b)", "fault 4 at 3"}, {"a[[]]", "fault 4 at 4"}, {"a[chan]", "fault 4 at 6"},
		{"f(", "fault 4 at 2"}, {"f(,)", "fault 4 at 2"}, {"f(a", "fault 4 at 3"}, {"f(a b)", "fault 4 at 4"}, {"f(a,,)", "fault 4 at 4"}, {"f(...)", "fault 4 at 2"}, {"f(...a)", "fault 4 at 2"}, {"f(a..., b)", "fault 4 at 8"}, {"f(a... b)", "fault 4 at 7"}, {"f(a... ...)", "fault 4 at 7"}, {"f(a...,,)", "fault 4 at 7"}, {"f(a]", "fault 4 at 3"}, {"f(a\n)", "fault 4 at 3"}, {"f(func())", "fault 4 at 8"}, {"f(func(int))", "fault 4 at 10"}, {"f(*[]a)", "fault 4 at 6"}, {"f(map)", "fault 4 at 2"}, {"f([3]a)", "fault 4 at 3"}, {"f([]a b)", "fault 4 at 6"}, {"f([]a(b))", "fault 4 at 5"}, {"f([]a.b.c)", "fault 4 at 7"}, {"f([]a + b)", "fault 4 at 6"}, {"f([]a[0])", "fault 4 at 5"}, {"f(chan a{})", "fault 4 at 8"}, {"f(struct{}{})", "fault 4 at 10"}, {"f(interface{}{})", "fault 4 at 13"}, {"f(chan []a{})", "fault 4 at 10"}, {"f(chan a + b)", "fault 4 at 9"}, {"f(struct{}.a)", "fault 4 at 10"}, {"f([]a{}{})", "fault 4 at 7"},
		{"chan a", "fault 4 at 0"}, {"struct{}", "fault 4 at 0"}, {"interface{}", "fault 4 at 0"}, {"struct{}{}", "fault 4 at 0"}, {"[]a", "fault 4 at 3"}, {"[]a(b)", "fault 4 at 3"}, {"[]", "fault 4 at 2"}, {"[a]", "fault 4 at 1"}, {"[]a{", "fault 4 at 4"}, {"map[a]b{}", "fault 4 at 0"}, {"if", "fault 4 at 0"}, {"*[]a", "fault 4 at 4"}, {"a + []b", "fault 4 at 7"}, {"{}", "fault 4 at 0"},
		{"T{", "fault 4 at 2"}, {"T{,}", "fault 4 at 2"}, {"T{a", "fault 4 at 3"}, {"T{a b}", "fault 4 at 4"}, {"T{a,,}", "fault 4 at 4"}, {"T{a;}", "fault 4 at 3"}, {"T{a\n}", "fault 4 at 3"}, {"T{a,\n}", "Composite(T a)"}, {"T{a)", "fault 4 at 3"}, {"T{}{}", "fault 4 at 3"}, {"T{{}}", "fault 4 at 2"}, {"T{a: {}}", "fault 4 at 5"}, {"T{[]a}", "fault 4 at 5"}, {"T{chan a}", "fault 4 at 2"}, {"T{a...}", "fault 4 at 3"}, {"a.b.c{}", "fault 4 at 5"}, {"(T){}", "fault 4 at 3"}, {"(a.b){}", "fault 4 at 5"}, {"f(){}", "fault 4 at 3"}, {"a[b]{}", "fault 4 at 4"}, {"a.(b){}", "fault 4 at 5"}, {"T{}.a{}", "fault 4 at 5"}, {"1{}", "fault 4 at 1"}, {`"a"{}`, "fault 4 at 3"}, {"(a).b{}", "fault 4 at 5"},
		{"func", "fault 4 at 4"}, {"func f() {}", "fault 4 at 5"}, {"func()", "fault 4 at 6"}, {"func() a", "fault 4 at 8"}, {"func(a) {}", "fault 4 at 6"}, {"func(a, b c) {}", "fault 4 at 6"}, {"func(a b", "fault 4 at 8"}, {"func(a b c) {}", "fault 4 at 9"}, {"func(a ...b, c d) {}", "fault 4 at 13"}, {"func(a ... ...b) {}", "fault 4 at 11"}, {"func(...a) {}", "fault 4 at 5"}, {"func(a ...) {}", "fault 4 at 10"}, {"func() () {}", "fault 4 at 8"}, {"func() (a b) {}", "fault 4 at 10"}, {"func() {", "fault 4 at 8"}, {"func() {}{}", "fault 4 at 9"}, {"func[T a]() {}", "fault 4 at 4"}, {"func(,) {}", "fault 4 at 5"}, {"func(a.b c) {}", "fault 4 at 6"},
	})
}

func TestFileFaults(t *testing.T) {
	see(t, "P5.1: File", parse.File, [][2]string{
		{"", "fault 4 at 0"}, {" \n ", "fault 4 at 3"}, {"// a\n", "fault 4 at 5"}, {";", "fault 4 at 0"}, {"package", "fault 4 at 7"}, {"package;", "fault 4 at 7"}, {"package 1", "fault 4 at 8"}, {`package "a"`, "fault 4 at 8"}, {"package if", "fault 4 at 8"}, {"package a b", "fault 4 at 10"}, {"package a.b", "fault 4 at 9"}, {"package a;;", "fault 4 at 10"}, {"package a\n;", "fault 4 at 10"}, {"package a package b", "fault 4 at 10"}, {"package a; package b", "fault 4 at 11"}, {`"package" a`, "fault 4 at 0"}, {"var x int", "fault 4 at 0"},
		{"package a; import", "fault 4 at 17"}, {"package a; import b", "fault 4 at 18"}, {"package a; import \"b\" \"c\"", "fault 4 at 22"}, {"package a; import (\"b\")", "fault 4 at 18"}, {"package a; import b \"c\"", "fault 4 at 18"}, {"package a; import \"b\";;", "fault 4 at 22"}, {"package a import \"b\"", "fault 4 at 10"}, {"package a; var x int; import \"b\"", "fault 4 at 22"}, {"package a; import \"b\" var x int", "fault 4 at 22"},
		{"package a; var", "fault 4 at 14"}, {"package a; var x", "fault 4 at 16"}, {"package a; var x;", "fault 4 at 16"}, {"package a; var x =", "fault 4 at 18"}, {"package a; var = 1", "fault 4 at 15"}, {"package a; var x, y int", "fault 4 at 16"}, {"package a; var x int = ", "fault 4 at 23"}, {"package a; var x int 1", "fault 4 at 21"}, {"package a; var x = 1, 2", "fault 4 at 20"}, {"package a; var x := 1", "fault 4 at 17"}, {"package a; var (x int)", "fault 4 at 15"}, {"package a; var x T[int]", "fault 4 at 18"}, {"package a; var x = []int", "fault 4 at 24"}, {"package a; var x T{}", "fault 4 at 18"}, {"package a; var 1 int", "fault 4 at 15"},
		{"package a; const c", "fault 4 at 18"}, {"package a; const c int", "fault 4 at 22"}, {"package a; const c =", "fault 4 at 20"}, {"package a; const = 1", "fault 4 at 17"}, {"package a; const c, d = 1", "fault 4 at 18"}, {"package a; const (c = 1)", "fault 4 at 17"}, {"package a; const c := 1", "fault 4 at 19"},
		{"package a; type", "fault 4 at 15"}, {"package a; type T", "fault 4 at 17"}, {"package a; type T = int", "fault 4 at 18"}, {"package a; type T[A any] int", "fault 4 at 18"}, {"package a; type T int int", "fault 4 at 22"}, {"package a; type (T int)", "fault 4 at 16"}, {"package a; type 1 int", "fault 4 at 16"},
		{"package a; x", "fault 4 at 11"}, {"package a; f()", "fault 4 at 11"}, {"package a; x := 1", "fault 4 at 11"}, {"package a; if x {}", "fault 4 at 11"}, {"package a; {}", "fault 4 at 11"}, {"package a; }", "fault 4 at 11"}, {"package a; var x int;;", "fault 4 at 21"}, {"package a; var x int var y int", "fault 4 at 21"}, {`package a; "var" x int`, "fault 4 at 11"}, {"package a; func f() {} func g() {}", "fault 4 at 23"},
		{"package a; func", "fault 4 at 15"}, {"package a; func f", "fault 4 at 17"}, {"package a; func f(", "fault 4 at 18"}, {"package a; func f()", "fault 4 at 19"}, {"package a; func f();", "fault 4 at 19"}, {"package a; func f() {", "fault 4 at 21"}, {"package a; func f() int", "fault 4 at 23"}, {"package a; func f() }", "fault 4 at 20"}, {"package a; func f()\n{}", "fault 4 at 19"}, {"package a; func () f() {}", "fault 4 at 17"}, {"package a; func (T) f() {}", "fault 4 at 18"}, {"package a; func (t T, u U) f() {}", "fault 4 at 20"}, {"package a; func (t T,) f() {}", "fault 4 at 20"}, {"package a; func (t **T) f() {}", "fault 4 at 20"}, {"package a; func (t a.T) f() {}", "fault 4 at 20"}, {"package a; func (t []T) f() {}", "fault 4 at 19"}, {"package a; func (t *) f() {}", "fault 4 at 20"}, {"package a; func (t T) () {}", "fault 4 at 22"}, {"package a; func (t T[A]) f() {}", "fault 4 at 20"}, {"package a; func (t (T)) f() {}", "fault 4 at 19"}, {"package a; func (t T) f[A b]() {}", "fault 4 at 23"}, {"package a; func (t T) {}", "fault 4 at 22"}, {"package a; func (t T) f {}", "fault 4 at 24"},
		{"package a; func f[]() {}", "fault 4 at 18"}, {"package a; func f[A]() {}", "fault 4 at 19"}, {"package a; func f[A, B any]() {}", "fault 4 at 19"}, {"package a; func f[A b,,]() {}", "fault 4 at 22"}, {"package a; func f[A b|]() {}", "fault 4 at 22"}, {"package a; func f[A |b]() {}", "fault 4 at 20"}, {"package a; func f[A ~b]() {}", "fault 3 at 20"}, {"package a; func f[A b||c]() {}", "fault 4 at 21"}, {"package a; func f[A ...b]() {}", "fault 4 at 20"}, {"package a; func f[A b c]() {}", "fault 4 at 22"}, {"package a; func f[A b] {}", "fault 4 at 23"}, {"package a; func f[A b)() {}", "fault 4 at 21"}, {"package a; func f[A b][B c]() {}", "fault 4 at 22"},
		{"package a; func f(a) {}", "fault 4 at 19"}, {"package a; func f(a, b c) {}", "fault 4 at 19"}, {"package a; func f(a ...b, c d) {}", "fault 4 at 26"}, {"package a; func f(a ...b, c ...d) {}", "fault 4 at 26"}, {"package a; func f(...a) {}", "fault 4 at 18"}, {"package a; func f(,) {}", "fault 4 at 18"}, {"package a; func f(a b,,) {}", "fault 4 at 22"}, {"package a; func f(a b) (c d) {}", "fault 4 at 26"}, {"package a; func f(a b) () {}", "fault 4 at 24"}, {"package a; func f() (a, ) b {}", "fault 4 at 26"}, {"package a; func f() a, b {}", "fault 4 at 21"}, {"package a; func f(a b|c) {}", "fault 4 at 21"}, {"package a; func f() ...a {}", "fault 4 at 20"}, {"package a; func f() (...a) {}", "fault 4 at 21"},
	})
}

func TestStatementFaults(t *testing.T) {
	see(t, "P5.1: the statements", body, [][2]string{
		{"a b", "fault 4 at 2"}, {"a,", "fault 4 at 3"}, {"a, b", "fault 4 at 4"}, {"a, b +", "fault 4 at 7"}, {"a, b++", "fault 4 at 4"}, {"a, b += 1", "fault 4 at 5"}, {"a += 1, 2", "fault 4 at 6"}, {"a = ", "fault 4 at 5"}, {"a = b,", "fault 4 at 7"}, {"a = b = c", "fault 4 at 6"}, {"a := b := c", "fault 4 at 7"}, {"a.b := 1", "fault 4 at 4"}, {"(a) := 1", "fault 4 at 4"}, {"1 := a", "fault 4 at 2"}, {"f() := 1", "fault 4 at 4"}, {"a, b.c := 1", "fault 4 at 7"}, {"a.b, c := 1", "fault 4 at 7"}, {"a, (b) := 1", "fault 4 at 7"}, {"-a := 1", "fault 4 at 3"}, {"a + b := 1", "fault 4 at 6"}, {"T{} := 1", "fault 4 at 4"}, {"a := ", "fault 4 at 6"}, {"a := 1,", "fault 4 at 8"}, {"a := range b", "fault 4 at 5"}, {"= 1", "fault 4 at 0"}, {":= 1", "fault 4 at 0"}, {"a++ b", "fault 4 at 4"}, {"a++ + 1", "fault 4 at 4"}, {"++a", "fault 4 at 0"}, {"a++--", "fault 4 at 3"}, {"a : b", "fault 4 at 2"}, {"a: b()", "fault 4 at 1"}, {"a...", "fault 4 at 1"}, {"a |b", "fault 4 at 2"}, {"a <-", "fault 4 at 5"}, {"a += ", "fault 4 at 6"}, {`a "=" b`, "fault 4 at 2"},
		{"type T int", "fault 4 at 0"}, {"import \"b\"", "fault 4 at 0"}, {"package b", "fault 4 at 0"}, {"func f() {}", "fault 4 at 5"}, {"goto a", "fault 4 at 0"}, {"fallthrough", "fault 4 at 0"}, {"map", "fault 4 at 0"}, {"range a", "fault 4 at 0"}, {"else {}", "fault 4 at 0"}, {"case 1:", "fault 4 at 0"}, {"default:", "fault 4 at 0"}, {"struct{}", "fault 4 at 0"}, {"chan a", "fault 4 at 0"}, {"interface{}", "fault 4 at 0"}, {"[]a", "fault 4 at 3"}, {")", "fault 4 at 0"}, {"{", "fault 4 at 3"}, {"{}}}", "fault 4 at 3"}, {"{} {}", "fault 4 at 3"}, {"var x", "fault 4 at 5"}, {"const c", "fault 4 at 7"}, {"{ a() ) }", "fault 4 at 6"},
		{"go", "fault 4 at 3"}, {"go f", "fault 4 at 4"}, {"go f.g", "fault 4 at 6"}, {"go -f()", "fault 4 at 3"}, {"go *f()", "fault 4 at 3"}, {"go !f()", "fault 4 at 3"}, {"go &f()", "fault 4 at 3"}, {"go <-f()", "fault 4 at 3"}, {"go (f())", "fault 4 at 8"}, {"go f() + 1", "fault 4 at 7"}, {"go f + g()", "fault 4 at 5"}, {"go f().a", "fault 4 at 8"}, {"go f()[0]", "fault 4 at 9"}, {"go f(), g()", "fault 4 at 6"}, {"go f() = 1", "fault 4 at 7"}, {"go f()++", "fault 4 at 6"}, {"go func() {}", "fault 4 at 12"}, {"go T{}", "fault 4 at 6"}, {"go 1", "fault 4 at 4"}, {"go go f()", "fault 4 at 3"}, {"go {}", "fault 4 at 3"}, {"go []a", "fault 4 at 6"}, {"go a <- b", "fault 4 at 5"}, {"go a := b()", "fault 4 at 5"}, {"go f();;", "Block(Go(Call(f)))"},
		{"defer", "fault 4 at 6"}, {"defer f", "fault 4 at 7"}, {"defer -f()", "fault 4 at 6"}, {"defer (f())", "fault 4 at 11"}, {"defer f() == g()", "fault 4 at 10"}, {"defer f().(a)", "fault 4 at 13"}, {"defer go f()", "fault 4 at 6"},
		{"return a,", "fault 4 at 10"}, {"return ,", "fault 4 at 7"}, {"return a b", "fault 4 at 9"}, {"return a = b", "fault 4 at 9"}, {"return return", "fault 4 at 7"}, {"return (a, b)", "fault 4 at 9"}, {"return case", "fault 4 at 7"}, {"return default", "fault 4 at 7"}, {"break a", "fault 4 at 6"}, {"continue 1", "fault 4 at 9"}, {"break continue", "fault 4 at 6"}, {"return { a }", "fault 4 at 7"},
	})
}

func TestHeadFaults(t *testing.T) {
	see(t, "P5.1: the statements", body, [][2]string{
		{"if", "fault 4 at 3"}, {"if {}", "fault 4 at 3"}, {"if ; a {}", "fault 4 at 3"}, {"if a", "fault 4 at 5"}, {"if a; {}", "fault 4 at 6"}, {"if a b", "fault 4 at 5"}, {"if a = 1 {}", "fault 4 at 9"}, {"if a := 1 {}", "fault 4 at 10"}, {"if a++ {}", "fault 4 at 7"}, {"if a += 1 {}", "fault 4 at 10"}, {"if a; b; c {}", "fault 4 at 7"}, {"if a; b = c {}", "fault 4 at 8"}, {"if a; b := c {}", "fault 4 at 8"}, {"if var x = 1; x {}", "fault 4 at 3"}, {"if a {} else", "fault 4 at 13"}, {"if a {} else b()", "fault 4 at 13"}, {"if a {} else for {}", "fault 4 at 13"}, {"if a {} else {} else {}", "fault 4 at 16"}, {"if a {}\nelse {}", "fault 4 at 8"}, {"if a {}; else {}", "fault 4 at 9"}, {"if a {} b()", "fault 4 at 8"}, {"if a, b {}", "fault 4 at 8"}, {"if a\n{}", "fault 4 at 5"}, {"if a b() {}", "fault 4 at 5"}, {"if (a {}", "fault 4 at 8"}, {"if a {} else if {}", "fault 4 at 16"}, {"if break; a {}", "fault 4 at 3"}, {"if a {} if b {}", "fault 4 at 8"}, {"if a; b; {}", "fault 4 at 7"}, {"if a <- b {}", "fault 4 at 10"}, {"if a {", "fault 4 at 8"},
		{"for", "fault 4 at 4"}, {"for a", "fault 4 at 6"}, {"for a = 1 {}", "fault 4 at 10"}, {"for a := 1 {}", "fault 4 at 11"}, {"for a++ {}", "fault 4 at 8"}, {"for a; b {}", "fault 4 at 9"}, {"for ; {}", "fault 4 at 6"}, {"for a; {}", "fault 4 at 7"}, {"for ;;; {}", "fault 4 at 6"}, {"for a; b = c; {}", "fault 4 at 9"}, {"for a; b++; {}", "fault 4 at 8"}, {"for ;; a; {}", "fault 4 at 8"}, {"for ;; range a {}", "fault 4 at 7"}, {"for ;; a := range b {}", "fault 4 at 12"}, {"for range {}", "fault 4 at 10"}, {"for range a", "fault 4 at 11"}, {"for range a; b {}", "fault 4 at 11"}, {"for a range b {}", "fault 4 at 6"}, {"for a = range b {}", "fault 4 at 8"}, {"for a, b = range c {}", "fault 4 at 11"}, {"for a, b range c {}", "fault 4 at 9"}, {"for a, b, c := range d {}", "fault 4 at 15"}, {"for (a) := range b {}", "fault 4 at 8"}, {"for a.b := range c {}", "fault 4 at 8"}, {"for a, 1 := range b {}", "fault 4 at 9"}, {"for 1, a := range b {}", "fault 4 at 9"}, {"for := range a {}", "fault 4 at 4"}, {"for a := range {}", "fault 4 at 15"}, {"for a := range b := c {}", "fault 4 at 17"}, {"for range range a {}", "fault 4 at 10"}, {"for a, b {}", "fault 4 at 9"}, {"for var x = 1;; {}", "fault 4 at 4"}, {"for a {} else {}", "fault 4 at 9"}, {"for a := b, range c {}", "fault 4 at 12"}, {"for {", "fault 4 at 7"}, {"for ;; {", "fault 4 at 10"}, {"for a <- b {}", "fault 4 at 11"}, {"for a, := range b {}", "fault 4 at 7"},
		{"switch", "fault 4 at 7"}, {"switch {}", "fault 4 at 7"}, {"switch a", "fault 4 at 8"}, {"switch a; b {}", "fault 4 at 8"}, {"switch a := b; a {}", "fault 4 at 9"}, {"switch a := b {}", "fault 4 at 9"}, {"switch a.(type) {}", "fault 4 at 10"}, {"switch a, b {}", "fault 4 at 8"}, {"switch a { b() }", "fault 4 at 11"}, {"switch a { ; }", "fault 4 at 11"}, {"switch a { case }", "fault 4 at 16"}, {"switch a { case: }", "fault 4 at 15"}, {"switch a { case 1 }", "fault 4 at 18"}, {"switch a { case 1, : }", "fault 4 at 19"}, {"switch a { case 1; }", "fault 4 at 17"}, {"switch a { default 1: }", "fault 4 at 19"}, {"switch a { default }", "fault 4 at 19"}, {"switch a { case []int: }", "fault 4 at 21"}, {"switch a { case 1: b() c() }", "fault 4 at 23"}, {"switch a { case 1: case }", "fault 4 at 24"}, {"switch a { case 1: fallthrough }", "fault 4 at 19"}, {"switch a { case 1:", "fault 4 at 20"}, {"switch a { default: {case 1:} }", "fault 4 at 21"}, {"switch a { default: if b { case 1: } }", "fault 4 at 27"}, {"switch a { default: func() { return case } }", "fault 4 at 36"}, {"switch a {} case 1:", "fault 4 at 12"}, {"switch a { case 1: } default:", "fault 4 at 21"}, {"switch a { case x := 1: }", "fault 4 at 18"}, {"switch a { case 1: a: }", "fault 4 at 20"},
	})
}

// FaultText and FaultScan come ahead of FaultSyntax and FaultDeep, wherever these are.
func TestScanFaults(t *testing.T) {
	deep := strings.Repeat("(", 300) + "a" + strings.Repeat(")", 300)
	long := strings.Repeat(" ", api.MaxBytes)
	for name, call := range calls {
		see(t, "P5.1: "+name, call, [][2]string{
			{"#", "fault 3 at 0"}, {") #", "fault 3 at 2"}, {"package ) a 01", "fault 3 at 12"}, {"a b \"c", "fault 3 at 4"}, {"/* a", "fault 3 at 0"}, {"a . . /* b", "fault 3 at 6"}, {"if if 1a", "fault 3 at 6"}, {"'", "fault 3 at 0"}, {`"\q`, "fault 3 at 1"}, {strings.Repeat("a", api.MaxName+1), "fault 3 at 0"}, {") " + strings.Repeat("1", api.MaxDigits+1), "fault 3 at 2"}, {deep + "~", "fault 3 at 601"},
			{"\xff", "fault 2 at 0"}, {"a\x00", "fault 2 at 0"}, {") # \xff", "fault 2 at 0"}, {long + "a", "fault 2 at 0"}, {")" + long, "fault 2 at 0"}, {"#" + long, "fault 2 at 0"}, {deep + "\x00", "fault 2 at 0"}, {"package \xc3", "fault 2 at 0"},
		})
	}
	see(t, "P5.1: File", parse.File, [][2]string{{"package a" + long[9:], "File(a)"}, {long[9:] + "package a", "File(a)"}})
	see(t, "P5.1: Type", parse.Type, [][2]string{{"a" + long[1:], "a"}})
	see(t, "P5.1: Value", parse.Value, [][2]string{{long[1:] + "a", "a"}, {strings.Repeat("1", api.MaxDigits), strings.Repeat("1", api.MaxDigits)}, {strings.Repeat("a", api.MaxName), strings.Repeat("a", api.MaxName)}})
}

// whole is a source of every form of the grammar.
const whole = `package a
import "b"
import "c/d"
const c0 = 1
const c1 int = 2 * 3 // remark
var v0 int
var v1 = f(1, "s")
var v2 []b.T = []b.T{b.T{x: 1, y: -2}, b.T{},}
type T struct {
	a int
	b.T; U
	c func(int, ...*T) (chan int, (T)); d interface { M(); N(int, T,) (T); b.I }
}
type F func()
func g[A int | *T, B any](x A, y ...B) B { return y[0] }
func (t *T) M() {}
func (t T) N(a int, b T,) (T,) {
	var x = t.a.(int)
	const y int = 1
	{ x++; x-- }
	a, b.c = b.c, a
	a += 1; a -= 2; a *= 3; a /= 4; a %= 5
	p, q := &t, func(z int) int { return z }
	c <- <-d
	go func() {}()
	defer p.m[int, []T](q, chan int, struct{}, interface{}, y...)
	if a == 1 && !b || c != d {
	} else if x := f(T{}); x > 2 {
		return
	} else {
		return a, b
	}
	for {}
	for a < 1 { break }
	for i := 0; i <= 2; i++ { continue }
	for ;; {}
	for range a {}
	for i := range []T{} {}
	for i, j := range a % b {}
	switch a - b / c {
	case 1, 2: f(); g()
	default:
	case T{}:
	}
	select {
	case c <- 1:
	case <-c: f()
	case x, ok := <-c:
	case x := <-c: ;
	default: return
	}
	*p = (1 >= 2)
	f[int](1)()
}
`

// A source that is cut short has its fault at its end, where a line's end may stand for a `;`, or none.
func TestCutShort(t *testing.T) {
	tokens, fault := scan.Tokens(whole)
	if n, f := parse.File(whole); fault.Code != 0 || f.Code != 0 || tree.Size(n) < 300 {
		t.Fatalf("P5.1: the whole source has the fault %v", f)
	}
	r := newReading("FILE")
	to, right := 0, 0
	for i, x := range tokens {
		src := whole[:x.From]
		want := (&layer{T: t, reading: r}).ended(src, i)
		n, got := parse.File(src)
		if got != want || (n.Kind == 0) != (want.Code != 0) || got.Code != 0 && (got.At < to || got.At > len(src)) {
			t.Errorf("P5.1: File of the source up to %d is %v, want %v", x.From, got, want)
		}
		if got.Code == 0 {
			right++
		}
		to = x.To
		if !r.read(x) {
			t.Fatalf("the grammar rejects the token at %d", x.From)
		}
	}
	if right < 10 {
		t.Errorf("%d sources that are cut short are right", right)
	}
}

// Each of many tokens is put in ahead of each one, and in the place of each one; each one is left out.
func TestPutIn(t *testing.T) {
	t.Parallel()
	texts := strings.Fields(`a 1 "(" ; , . : ... | ( ) [ ] { } = := == * ! <- ++ var func struct if else for range case default go return`)
	tokens, _ := scan.Tokens(whole)
	r := newReading("FILE")
	for i, x := range tokens {
		// A few tokens further on are enough to see what a token does.
		some := whole[:tokens[min(i+8, len(tokens)-1)].From]
		for _, text := range texts {
			seeFault(t, r, some[:x.From]+" "+text+" "+some[x.From:], i)
			seeFault(t, r, some[:x.From]+" "+text+" "+some[x.To:], i)
		}
		seeFault(t, r, some[:x.From]+" "+some[x.To:], i)
		if !r.read(x) {
			t.Fatalf("the grammar rejects the token at %d", x.From)
		}
	}
}

// seeFault holds the fault of a source, so many of whose tokens were read, against the grammar, which is asked
// for a few tokens further: behind them another fault may be, or none.
func seeFault(t *testing.T, r *reading, src string, read int) {
	t.Helper()
	defer r.unread(read)
	n, got := parse.File(src)
	tokens, _ := scan.Tokens(src)
	for _, x := range tokens[read:min(read+6, len(tokens))] {
		if !r.read(x) {
			if want := (api.Fault{Code: api.FaultSyntax, At: x.From}); got != want || n.Kind != 0 {
				t.Fatalf("P5.1: File of %q is %v, want %v", src, got, want)
			}
			return
		}
		if got.Code != 0 && got.At < x.To {
			t.Fatalf("P5.1: File of %q is %v, but that token may follow", src, got)
		}
	}
}
