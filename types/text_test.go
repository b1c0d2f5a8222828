package types_test

import (
	"testing"

	"recast/api"
	"recast/types"
)

func TestTextExamples(t *testing.T) {
	texts(t, []told{
		{many(2, number(), of(api.TypeSlice, text()), truth()), "func(int, ...string) bool"},
		{fields("x +T", number(), declared("main.T")), "struct { x int; main.T }"},
		{of(api.TypeStruct), "struct {}"},
		{face("M", fn(0)), "interface { M() }"},
	})
}

// told is a type and its text.
type told struct {
	t    api.Type
	want string
}

func texts(t *testing.T, l []told) {
	t.Helper()
	for _, x := range l {
		if got := types.Text(x.t); got != x.want {
			t.Errorf("P8.3: Text(%s) is %q, want %q", dump(x.t), got, x.want)
		}
	}
}

func TestTextWords(t *testing.T) {
	texts(t, []told{
		{number(), "int"}, {text(), "string"}, {truth(), "bool"},
		{of(api.TypeConstInt), "constant int"}, {of(api.TypeConstStr), "constant string"}, {of(api.TypeConstBool), "constant bool"},
		{of(api.TypeNil), "nil"},
		{declared("main.T"), "main.T"}, {declared(""), ""}, {param("P", 3, anyEqual()), "P"}, {param("", 0), ""},
		{of(api.TypePointer, number()), "*int"}, {of(api.TypeSlice, number()), "[]int"}, {of(api.TypeChan, number()), "chan int"},
		{of(api.TypePointer, of(api.TypeSlice, of(api.TypeChan, of(api.TypeChan, of(api.TypePointer, declared("a.b")))))), "*[]chan chan *a.b"},
		{of(api.TypeUnion), ""}, {of(api.TypeUnion, number()), "int"}, {of(api.TypeUnion, number(), text(), truth()), "int | string | bool"},
		{anyEqual(), "comparable"}, {anyEqual(number(), text()), "comparable"},
		{api.Type{Kind: api.TypeUnion, N: 2, Kids: []api.Type{number(), text()}}, "int | string"},
		{api.Type{Kind: api.TypeUnion, N: -1, Kids: []api.Type{number()}}, "int"},
		{of(api.TypeTuple), "()"}, {of(api.TypeTuple, number()), "(int)"}, {of(api.TypeTuple, number(), fn(0), of(api.TypeTuple, text(), truth())), "(int, func(), (string, bool))"},
	})
}

func TestTextFuncs(t *testing.T) {
	ints := of(api.TypeSlice, number())
	texts(t, []told{
		{fn(0), "func()"}, {fn(1, number()), "func(int)"}, {fn(2, number(), text()), "func(int, string)"}, {fn(3, number(), text(), ints), "func(int, string, []int)"},
		{fn(0, number()), "func() int"}, {fn(1, number(), text()), "func(int) string"}, {fn(0, number(), text()), "func() (int, string)"},
		{fn(1, text(), number(), text(), truth()), "func(string) (int, string, bool)"},
		{fn(0, of(api.TypeTuple)), "func() ()"}, {fn(0, fn(0, fn(0))), "func() func() func()"}, {fn(1, fn(1, number(), truth()), fn(0, number(), text())), "func(func(int) bool) func() (int, string)"},
		{many(1, ints), "func(...int)"}, {many(2, ints, ints), "func([]int, ...int)"}, {many(3, ints, text(), ints, ints), "func([]int, string, ...int) []int"},
		{many(1, of(api.TypeSlice, ints), ints, ints), "func(...[]int) ([]int, []int)"},
		{many(1, of(api.TypeSlice, many(1, ints))), "func(...func(...int))"},
		// One that is no slice is told as it is: a declared one too, whatever is underneath.
		{many(1, number()), "func(...int)"}, {many(2, text(), declared("main.S")), "func(string, ...main.S)"}, {many(1, param("P", 0)), "func(...P)"}, {many(1, of(api.TypePointer, ints)), "func(...*[]int)"},
		// The first result is no parameter.
		{many(0), "func()"}, {many(0, ints), "func() []int"}, {many(1, number(), ints), "func(...int) []int"},
	})
}

func TestTextMembers(t *testing.T) {
	texts(t, []told{
		{fields("x", number()), "struct { x int }"}, {fields("+T", declared("a.T")), "struct { a.T }"}, {fields("x y z", number(), text(), truth()), "struct { x int; y string; z bool }"},
		{fields("+T x +U", declared("a.T"), of(api.TypePointer, declared("a.T")), declared("b.U")), "struct { a.T; x *a.T; b.U }"},
		{fields("x", of(api.TypeStruct)), "struct { x struct {} }"}, {fields("x y", fields("+T", declared("T")), face("M", fn(0))), "struct { x struct { T }; y interface { M() } }"},
		{of(api.TypeInterface), "any"}, {face("A", fn(1, number(), text())), "interface { A(int) string }"},
		{face("A B C", fn(0, number(), text()), many(1, of(api.TypeSlice, number())), fn(0)), "interface { A() (int, string); B(...int); C() }"},
		{face("M", fn(1, fn(0), fn(0, fn(0)))), "interface { M(func()) func() func() }"},
		{face("M", fn(1, of(api.TypeInterface), face("N", fn(0)))), "interface { M(any) interface { N() } }"},
		{of(api.TypeSlice, of(api.TypeInterface)), "[]any"}, {of(api.TypeChan, of(api.TypeStruct)), "chan struct {}"},
		{param("P", 0, face("M", fn(0))), "P"}, {of(api.TypeUnion, of(api.TypeInterface), of(api.TypeSlice, number())), "any | []int"},
	})
}

// Types that no source has are told as far as there is something to tell.
func TestTextOdd(t *testing.T) {
	texts(t, []told{
		{api.Type{}, ""}, {of(-1, number()), ""}, {of(18, number()), ""}, {of(1<<63 - 1), ""}, {of(-1 << 63), ""},
		{of(api.TypePointer), "*"}, {of(api.TypeSlice), "[]"}, {of(api.TypeChan), "chan "}, {of(api.TypeSlice, api.Type{}), "[]"},
		{fn(-1, number()), "func() int"}, {fn(-1<<63, number()), "func() int"}, {fn(2, number()), "func(int)"}, {many(1<<63-1, of(api.TypeSlice, number())), "func(...int)"}, {many(-1, number()), "func() int"}, {many(1), "func()"}, {many(1, of(api.TypeSlice)), "func(...)"},
		{of(api.TypeStruct, number()), "struct {  int }"}, {of(api.TypeInterface, fn(0)), "interface { () }"},
		{face("M", number()), "interface { Mint }"}, {face("M", declared("functional")), "interface { Mfunctional }"},
		{api.Type{Kind: api.TypeInt, Name: "x", N: 5, Flag: true, Kids: []api.Type{text()}}, "int"},
		{api.Type{Kind: api.TypeStruct, Names: []string{"x", "y"}, Marks: []bool{false, false}}, "struct {}"},
	})
}
