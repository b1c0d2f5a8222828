package konst_test

import (
	"slices"
	"testing"

	"recast/api"
	"recast/exact"
	"recast/konst"
	"recast/scan"
	"recast/types"
)

// constant is whether a Const is one at all.
func constant(c api.Const) bool {
	return c.Kind == api.TypeInt || c.Kind == api.TypeString || c.Kind == api.TypeBool
}

func TestEqual(t *testing.T) {
	l := slices.DeleteFunc(pool(), func(c api.Const) bool { return !constant(c) })
	for i, a := range l {
		for k, b := range l {
			// 7 stands twice in the pool.
			want := i == k || same(a, b)
			if got := konst.Equal(a, b); got != want {
				t.Fatalf("P10.2: Equal(%s, %s) is %v", show(a), show(b), got)
			}
		}
	}
}

// Of one Kind, `==` is Equal and `!=` the opposite.
func TestEqualIsItsSign(t *testing.T) {
	for _, a := range pool() {
		for _, b := range pool() {
			x, e := konst.Binary("==", a, b)
			y, f := konst.Binary("!=", a, b)
			if a.Kind != b.Kind || !constant(a) {
				told(t, "P10.3: ==", x, e, api.Const{}, api.ErrKind)
				told(t, "P10.3: !=", y, f, api.Const{}, api.ErrKind)
			} else {
				told(t, "P10.3: ==", x, e, truth(konst.Equal(a, b)), api.OK)
				told(t, "P10.3: !=", y, f, truth(!konst.Equal(a, b)), api.OK)
			}
		}
	}
}

// shapes are ints of one value, in form and not, and with more beside the value.
func shapes(c api.Const) []api.Const {
	var l []api.Const
	for _, noughts := range []int{0, 1, 3, 40} {
		x := c
		x.Num.Mag = append(slices.Clone(c.Num.Mag), make([]uint32, noughts)...)
		l = append(l, x)
		if len(c.Num.Mag) == 0 {
			x.Num.Neg = true
			l = append(l, x)
		}
		x.Str, x.Bool = "more", true
		l = append(l, x)
	}
	return l
}

// Just the value of a constant's kind counts, and nothing else comes into an answer.
func TestValuesAlone(t *testing.T) {
	for _, v := range integers() {
		for _, w := range integers() {
			a, b := number(v), number(w)
			for _, x := range shapes(a) {
				for _, y := range shapes(b)[:3] {
					if konst.Equal(x, y) != (v.Cmp(w) == 0) || konst.Equal(y, x) != (v.Cmp(w) == 0) {
						t.Fatalf("P10.2: Equal(%s, %s)", show(x), show(y))
					}
					for _, op := range []string{"+", "%", "<="} {
						got, e := konst.Binary(op, x, y)
						want, err := second(op, a, b)
						told(t, "P10.1: "+show(x)+op+show(y), got, e, want, err)
					}
				}
				if konst.Text(x) != v.String() {
					t.Fatalf("P10.2: Text(%s) is %s", show(x), konst.Text(x))
				}
			}
		}
	}
	a := api.Const{Kind: api.TypeString, Num: api.Int{Mag: []uint32{3}}, Str: "a", Bool: true}
	b := api.Const{Kind: api.TypeBool, Num: api.Int{Mag: []uint32{4}}, Str: "b", Bool: true}
	if !konst.Equal(a, text("a")) || !konst.Equal(b, truth(true)) || konst.Equal(a, b) {
		t.Error("P10.2: Equal of constants with more in them")
	}
	got, e := konst.Binary("+", a, a)
	told(t, "P10.1: + of strings with more in them", got, e, text("aa"), api.OK)
	got, e = konst.Binary("&&", b, b)
	told(t, "P10.1: && of bools with more in them", got, e, truth(true), api.OK)
	got, e = konst.Unary("!", b)
	told(t, "P10.1: ! of a bool with more in it", got, e, truth(false), api.OK)
}

// What is of no constant's kind has no value to differ in.
func TestEqualOfNone(t *testing.T) {
	for _, a := range strange() {
		for _, b := range pool() {
			if got := konst.Equal(a, b); got != (a.Kind == b.Kind) || got != konst.Equal(b, a) {
				t.Fatalf("P10.2: Equal(%s, %s) is %v", show(a), show(b), got)
			}
		}
	}
}

func TestType(t *testing.T) {
	want := map[int]int{api.TypeInt: api.TypeConstInt, api.TypeString: api.TypeConstStr, api.TypeBool: api.TypeConstBool}
	for _, c := range pool() {
		if got := konst.Type(c); !types.Identical(got, api.Type{Kind: want[c.Kind]}) {
			t.Fatalf("P10.2: Type(%s) is %v", show(c), got)
		}
	}
	for kind := -2; kind < 20; kind++ {
		if got := konst.Type(api.Const{Kind: kind}).Kind; got != want[kind] {
			t.Fatalf("P10.2: Type of the kind %d is %d", kind, got)
		}
	}
}

func TestText(t *testing.T) {
	for _, c := range pool() {
		want := ""
		switch c.Kind {
		case api.TypeInt:
			want = value(c).String()
		case api.TypeString:
			want = scan.Quote(c.Str)
		case api.TypeBool:
			want = map[bool]string{true: "true", false: "false"}[c.Bool]
		}
		if got := konst.Text(c); got != want {
			t.Fatalf("P10.2: Text(%s) is %s; want %s", show(c), got, want)
		}
	}
	if got := konst.Text(text("a\\b\"c\nd\te\rf")); got != "\"a\\\\b\\\"c\\nd\\te\rf\"" {
		t.Errorf("P10.2: Text of a string with escapes is %s", got)
	}
}

// A text read back is the constant.
func TestTextReadBack(t *testing.T) {
	for _, v := range integers() {
		if v.Sign() < 0 {
			continue
		}
		x, e := exact.Parse(konst.Text(number(v)))
		told(t, "P10.2: an int read back", api.Const{Kind: api.TypeInt, Num: x}, e, number(v), api.OK)
	}
	for _, s := range []string{"", "a\"b\\c\n\td", "é\U00010000"} {
		tokens, _ := scan.Tokens(konst.Text(text(s)))
		if len(tokens) == 0 || tokens[0].Kind != api.TokStr || tokens[0].Text != s {
			t.Errorf("P10.2: %q read back is %v", s, tokens)
		}
	}
}
