package konst_test

import (
	"math"
	"math/big"
	"math/rand/v2"
	"strings"
	"testing"

	"recast/api"
	"recast/konst"
)

func TestMakers(t *testing.T) {
	for _, v := range []int{0, 1, -1, 5, -5, 1<<32 - 1, 1 << 32, -1 << 32, math.MaxInt, math.MinInt, math.MinInt + 1} {
		told(t, "P10.1: Int", konst.Int(v), 0, number(big.NewInt(int64(v))), 0)
	}
	for _, s := range append(words(), strings.Repeat("x", api.MaxBytes+1)) {
		told(t, "P10.1: Str", konst.Str(s), 0, text(s), 0)
	}
	for _, b := range []bool{false, true} {
		told(t, "P10.1: Bool", konst.Bool(b), 0, truth(b), 0)
	}
}

func TestUnary(t *testing.T) {
	for _, op := range allSigns {
		for _, c := range pool() {
			got, e := konst.Unary(op, c)
			want, err := api.Const{}, api.ErrKind
			if op == "-" && c.Kind == api.TypeInt {
				want, err = number(new(big.Int).Neg(value(c))), api.OK
			}
			if op == "!" && c.Kind == api.TypeBool {
				want, err = truth(!c.Bool), api.OK
			}
			told(t, "P10.1: "+op+show(c), got, e, want, err)
		}
	}
}

// secondInts is what the document says of two ints, by another arithmetic.
func secondInts(op string, v, w *big.Int) (api.Const, api.Errno) {
	x := new(big.Int)
	switch op {
	case "+":
		x.Add(v, w)
	case "-":
		x.Sub(v, w)
	case "*":
		x.Mul(v, w)
	case "/", "%":
		if w.Sign() == 0 {
			return api.Const{}, api.ErrZero
		}
		rest := new(big.Int)
		x.QuoRem(v, w, rest)
		if op == "%" {
			x = rest
		}
	default:
		return secondOrder(op, v.Cmp(w))
	}
	if large(x) {
		return api.Const{}, api.ErrBig
	}
	return number(x), api.OK
}

// secondOrder is what a sign says of two that stand so to each other.
func secondOrder(op string, order int) (api.Const, api.Errno) {
	below, alike, above := order < 0, order == 0, order > 0
	truths := map[string]bool{"==": alike, "!=": !alike, "<": below, "<=": below || alike, ">": above, ">=": above || alike}
	if b, ok := truths[op]; ok {
		return truth(b), api.OK
	}
	return api.Const{}, api.ErrKind
}

// byBytes is -1, 0, 1: the bytes held against each other one by one.
func byBytes(a, b string) int {
	for i := 0; ; i++ {
		switch {
		case i == len(a) && i == len(b):
			return 0
		case i == len(a):
			return -1
		case i == len(b):
			return 1
		case a[i] != b[i]:
			return int(a[i]) - int(b[i])
		}
	}
}

// second is what the document says of two constants.
func second(op string, a, b api.Const) (api.Const, api.Errno) {
	if a.Kind != b.Kind {
		return api.Const{}, api.ErrKind
	}
	switch a.Kind {
	case api.TypeInt:
		return secondInts(op, value(a), value(b))
	case api.TypeString:
		if op != "+" {
			return secondOrder(op, byBytes(a.Str, b.Str))
		}
		if both := a.Str + b.Str; len(both) <= 65536 {
			return text(both), api.OK
		}
		return api.Const{}, api.ErrBig
	case api.TypeBool:
		truths := map[string]bool{"&&": a.Bool && b.Bool, "||": a.Bool || b.Bool, "==": a.Bool == b.Bool, "!=": a.Bool != b.Bool}
		if v, ok := truths[op]; ok {
			return truth(v), api.OK
		}
	}
	return api.Const{}, api.ErrKind
}

// Each sign between every two of all kinds.
func TestBinary(t *testing.T) {
	for _, a := range pool() {
		for _, b := range pool() {
			for _, op := range allSigns {
				got, e := konst.Binary(op, a, b)
				want, err := second(op, a, b)
				told(t, "P10.1: "+show(a)+op+show(b), got, e, want, err)
			}
		}
	}
}

func TestBinaryByChance(t *testing.T) {
	source := rand.New(rand.NewPCG(10, 1))
	whole := func() api.Const {
		c := api.Const{Kind: api.TypeInt, Num: api.Int{Neg: source.IntN(2) == 0}}
		for range source.IntN(17) {
			c.Num.Mag = append(c.Num.Mag, source.Uint32()>>source.IntN(32))
		}
		return number(value(c))
	}
	row := func() api.Const {
		var b []byte
		for range source.IntN(4) {
			b = append(b, "\x00aAé\xff"[source.IntN(6)])
		}
		return text(string(b))
	}
	for range 5000 {
		for _, pair := range [][2]api.Const{{whole(), whole()}, {row(), row()}} {
			for _, op := range allSigns[:13] {
				got, e := konst.Binary(op, pair[0], pair[1])
				want, err := second(op, pair[0], pair[1])
				told(t, "P10.1: "+show(pair[0])+op+show(pair[1]), got, e, want, err)
			}
		}
	}
}

// What the document writes out itself.
func TestWrittenExamples(t *testing.T) {
	n, s := konst.Int, konst.Str
	for _, x := range []struct {
		op   string
		a, b api.Const
		text string
		e    api.Errno
	}{
		{"/", n(-7), n(2), "-3", api.OK}, {"%", n(-7), n(2), "-1", api.OK}, {"<", s("a"), s("b"), "true", api.OK}, {"+", n(1), s("a"), "", api.ErrKind},
		{"/", n(7), n(-2), "-3", api.OK}, {"%", n(7), n(-2), "1", api.OK}, {"/", n(-7), n(-2), "3", api.OK}, {"%", n(-7), n(-2), "-1", api.OK},
		{"/", n(math.MinInt), n(-1), "9223372036854775808", api.OK}, {"*", n(math.MaxInt), n(math.MaxInt), "85070591730234615847396907784232501249", api.OK},
		{"/", n(0), n(0), "", api.ErrZero}, {"%", n(5), n(0), "", api.ErrZero},
	} {
		got, e := konst.Binary(x.op, x.a, x.b)
		if konst.Text(got) != x.text || e != x.e {
			t.Errorf("%s %s %s is %s, %d; want %s, %d", konst.Text(x.a), x.op, konst.Text(x.b), konst.Text(got), e, x.text, x.e)
		}
	}
}

// The last results within 512 binary digits, and the first ones beyond.
func TestLimitOfInts(t *testing.T) {
	top, low, one := number(most()), number(new(big.Int).Neg(most())), konst.Int(1)
	none := api.Const{}
	for i, x := range []struct {
		op   string
		a, b api.Const
		want api.Const
	}{
		{"+", top, one, none}, {"+", one, top, none}, {"+", top, konst.Int(0), top}, {"+", top, low, konst.Int(0)}, {"-", low, one, none}, {"-", low, konst.Int(-1), number(new(big.Int).Add(value(low), big.NewInt(1)))}, {"-", top, top, konst.Int(0)}, {"-", top, low, none},
		{"*", number(power(511)), konst.Int(2), none}, {"*", number(power(510)), konst.Int(-2), number(new(big.Int).Neg(power(511)))}, {"*", top, konst.Int(-1), low}, {"*", top, top, none}, {"/", low, konst.Int(-1), top}, {"%", top, top, konst.Int(0)}, {"/", one, top, konst.Int(0)}, {"%", one, top, one},
	} {
		got, e := konst.Binary(x.op, x.a, x.b)
		err := api.OK
		if x.want.Kind == 0 {
			err = api.ErrBig
		}
		if e != err || !same(got, x.want) {
			t.Errorf("P10.1: number %d is %s, %d; want %s, %d", i, show(got), e, show(x.want), err)
		}
	}
}

// What is beyond the limit already is refused by arithmetic alone, and ahead of a 0 to divide by; it still has a sign, a text and an order.
func TestLargeInts(t *testing.T) {
	for _, v := range []*big.Int{power(512), new(big.Int).Neg(power(512)), power(2000)} {
		big1 := number(v)
		for _, other := range []api.Const{konst.Int(0), konst.Int(1), number(most()), big1} {
			for _, op := range allSigns[:5] {
				got, e := konst.Binary(op, big1, other)
				told(t, "P10.1: a large one "+op, got, e, api.Const{}, api.ErrBig)
				got, e = konst.Binary(op, other, big1)
				told(t, "P10.1: by a large one "+op, got, e, api.Const{}, api.ErrBig)
			}
			got, e := konst.Binary("<", big1, other)
			told(t, "P10.1: a large one <", got, e, truth(v.Cmp(value(other)) < 0), api.OK)
		}
		got, e := konst.Unary("-", big1)
		told(t, "P10.1: - of a large one", got, e, number(new(big.Int).Neg(v)), api.OK)
		if konst.Text(big1) != v.String() || !konst.Equal(big1, number(v)) || konst.Equal(big1, got) {
			t.Errorf("P10.2: a large one is %s", konst.Text(big1))
		}
	}
}

// The last row of bytes within MaxBytes, and the first one beyond, wherever it is cut.
func TestLimitOfStrings(t *testing.T) {
	full := strings.Repeat("ab\x00é", api.MaxBytes/5+1)[:api.MaxBytes]
	for _, at := range []int{0, 1, 2, 32768, api.MaxBytes - 1, api.MaxBytes} {
		got, e := konst.Binary("+", text(full[:at]), text(full[at:]))
		told(t, "P10.1: just MaxBytes", got, e, text(full), api.OK)
		got, e = konst.Binary("+", text(full[:at]), text(full[at:]+"x"))
		told(t, "P10.1: one more", got, e, api.Const{}, api.ErrBig)
		got, e = konst.Binary("+", text("x"+full[:at]), text(full[at:]))
		told(t, "P10.1: one more", got, e, api.Const{}, api.ErrBig)
	}
	beyond := text(full + "x")
	got, e := konst.Binary("+", beyond, text(""))
	told(t, "P10.1: a long one and none", got, e, api.Const{}, api.ErrBig)
	got, e = konst.Binary("==", beyond, beyond)
	told(t, "P10.1: a long one and itself", got, e, truth(true), api.OK)
	got, e = konst.Binary("-", beyond, beyond)
	told(t, "P10.1: a wrong sign ahead of the length", got, e, api.Const{}, api.ErrKind)
}
