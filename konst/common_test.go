package konst_test

import (
	"fmt"
	"math/big"
	"slices"
	"strings"
	"testing"

	"recast/api"
)

// allSigns are the signs that some kind has, and others, which none has.
var allSigns = []string{"+", "-", "*", "/", "%", "&&", "||", "==", "!=", "<", "<=", ">", ">=",
	"", "!", "&", "|", "=", "^", "<<", ">>", "<>", "=>", "=<", ":=", "+=", "++", "--", "===", "<-", "<=>", " +", "+ ", "==\x00", "and", "\xff", "＋"}

// power is 2^n.
func power(n uint) *big.Int { return new(big.Int).Lsh(big.NewInt(1), n) }

// most is the greatest value of at most 512 binary digits.
func most() *big.Int { return new(big.Int).Sub(power(512), big.NewInt(1)) }

// large is whether v has more than 512 binary digits.
func large(v *big.Int) bool { return v.BitLen() > 512 }

// number is the constant of v, its words in form.
func number(v *big.Int) api.Const {
	c := api.Const{Kind: api.TypeInt, Num: api.Int{Neg: v.Sign() < 0}}
	size := new(big.Int).Abs(v)
	for size.Sign() > 0 {
		c.Num.Mag = append(c.Num.Mag, uint32(size.Uint64()))
		size.Rsh(size, 32)
	}
	return c
}

// value is the whole number of an int.
func value(c api.Const) *big.Int {
	v := new(big.Int)
	for i := len(c.Num.Mag) - 1; i >= 0; i-- {
		v.Add(v.Lsh(v, 32), big.NewInt(int64(c.Num.Mag[i])))
	}
	if c.Num.Neg {
		v.Neg(v)
	}
	return v
}

func text(s string) api.Const { return api.Const{Kind: api.TypeString, Str: s} }

func truth(b bool) api.Const { return api.Const{Kind: api.TypeBool, Bool: b} }

// same is whether two constants are alike in all their fields.
func same(a, b api.Const) bool {
	return a.Kind == b.Kind && a.Num.Neg == b.Num.Neg && slices.Equal(a.Num.Mag, b.Num.Mag) && a.Str == b.Str && a.Bool == b.Bool
}

// show tells a constant with all its fields, a long string by its length.
func show(c api.Const) string {
	if len(c.Str) > 100 {
		return fmt.Sprintf("{a string of %d bytes}", len(c.Str))
	}
	return fmt.Sprintf("{%d %v %v %q %v}", c.Kind, c.Num.Neg, c.Num.Mag, c.Str, c.Bool)
}

// told fails, unless a call answered this constant, or this error alone.
func told(t *testing.T, what string, got api.Const, e api.Errno, want api.Const, err api.Errno) {
	t.Helper()
	if e != err || !same(got, want) {
		t.Fatalf("%s is %s, %d; want %s, %d", what, show(got), e, show(want), err)
	}
}

// integers are whole numbers at which words, ints and the limit begin and end, of both signs.
func integers() []*big.Int {
	l := []*big.Int{new(big.Int)}
	for _, n := range []uint{0, 1, 3, 31, 32, 63, 64, 96, 255, 256, 257, 511, 512} {
		for _, more := range []int64{-1, 0, 1} {
			v := new(big.Int).Add(power(n), big.NewInt(more))
			if !large(v) {
				l = append(l, v, new(big.Int).Neg(v))
			}
		}
	}
	return append(l, big.NewInt(7), big.NewInt(-7), big.NewInt(10), big.NewInt(-1000000007))
}

// strange are Consts that no call makes: of no constant's kind, or with more than its value in them.
func strange() []api.Const {
	return []api.Const{
		{}, {Kind: -1}, {Kind: api.TypeConstInt}, {Kind: api.TypeConstStr}, {Kind: api.TypeConstBool}, {Kind: api.TypeNil}, {Kind: api.TypeNamed}, {Kind: 1 << 40},
		{Str: "a"}, {Bool: true}, {Num: api.Int{Mag: []uint32{1}}}, {Kind: api.TypeConstInt, Num: api.Int{Mag: []uint32{1}}},
	}
}

// pool are constants of all kinds, and those of no kind.
func pool() []api.Const {
	var l []api.Const
	for _, v := range integers() {
		l = append(l, number(v))
	}
	for _, s := range words() {
		l = append(l, text(s))
	}
	return append(append(l, truth(false), truth(true)), strange()...)
}

// words are strings that bytes, runes, letters' sizes and lengths tell apart.
func words() []string {
	return []string{"", "a", "b", "B", "ab", "aa", "abc", "Z", "10", "9", " ", "\n", "\t", "\x00", "a\x00", "é", "e\u0301", "z", "\xff", "\xc3", "\uffff", "\U00010000", "\"", "\\", "//", "`", strings.Repeat("a", 300)}
}
