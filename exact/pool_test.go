package exact_test

import (
	"math/big"
	"math/rand/v2"
	"slices"
	"strings"
	"testing"

	"recast/api"
	"recast/exact"
)

// most is the greatest value that is not large: 2^512 - 1.
var most = new(big.Int).Sub(power(512), big.NewInt(1))

// power is 2^n.
func power(n uint) *big.Int {
	return new(big.Int).Lsh(big.NewInt(1), n)
}

// value is x, as the package api words it.
func value(x api.Int) *big.Int {
	v := new(big.Int)
	for i, word := range x.Mag {
		v.Add(v, new(big.Int).Mul(new(big.Int).SetUint64(uint64(word)), power(uint(32*i))))
	}
	if x.Neg {
		v.Neg(v)
	}
	return v
}

// number is the Int of v, in form.
func number(v *big.Int) api.Int {
	x := api.Int{Neg: v.Sign() < 0}
	size := new(big.Int).Abs(v)
	for size.Sign() > 0 {
		x.Mag = append(x.Mag, uint32(size.Uint64()))
		size.Rsh(size, 32)
	}
	return x
}

// num is the Int of decimal digits, `-` ahead or not.
func num(s string) api.Int {
	v, ok := new(big.Int).SetString(s, 10)
	if !ok {
		panic("no number: " + s)
	}
	return number(v)
}

// large is whether v has more than 512 binary digits.
func large(v *big.Int) bool {
	return new(big.Int).Abs(v).Cmp(most) > 0
}

// same is whether x is v, in form.
func same(x api.Int, v *big.Int) bool {
	want := number(v)
	return x.Neg == want.Neg && slices.Equal(x.Mag, want.Mag)
}

// shapes are Ints of one value, the first one in form.
func shapes(v *big.Int) []api.Int {
	x := number(v)
	l := []api.Int{x, {Neg: x.Neg, Mag: append(slices.Clone(x.Mag), 0)}, {Neg: x.Neg, Mag: append(slices.Clone(x.Mag), 0, 0, 0)}}
	if v.Sign() == 0 {
		l = append(l, api.Int{Neg: true}, api.Int{Neg: true, Mag: []uint32{0}}, api.Int{Mag: []uint32{}}, api.Int{Neg: true, Mag: make([]uint32, 40)})
	}
	return l
}

// edges are values at which words, ints and limits begin and end, of both signs, large ones among them.
func edges() []*big.Int {
	l := []*big.Int{new(big.Int)}
	for _, n := range []uint{0, 1, 3, 31, 32, 33, 63, 64, 65, 95, 96, 128, 255, 256, 257, 480, 511, 512, 513, 544, 1100} {
		for _, more := range []int64{-1, 0, 1} {
			v := new(big.Int).Add(power(n), big.NewInt(more))
			l = append(l, v, new(big.Int).Neg(v))
		}
	}
	for _, s := range []string{"9", "10", "999999999", "1000000000", "1000000001", "1000000000000000000", "5000000000000000000000000007", "1" + strings.Repeat("0", 153), "1" + strings.Repeat("0", 154), strings.Repeat("9", 154), strings.Repeat("9", 155), "1" + strings.Repeat("0", 400)} {
		v := value(num(s))
		l = append(l, v, new(big.Int).Neg(v))
	}
	return l
}

// pairs calls see with pairs that are not large: every two of the edges, every short row of the words that make carries, borrows and guesses go wrong, and many without a rule.
func pairs(see func(a, b *big.Int)) {
	small := slices.DeleteFunc(edges(), large)
	for _, a := range small {
		for _, b := range small {
			see(a, b)
		}
	}
	short := rows(3)
	for _, a := range rows(4) {
		for _, b := range short {
			see(a, b)
		}
	}
	source := rand.New(rand.NewPCG(2, 512))
	for range 20000 {
		see(anyOf(source), anyOf(source))
	}
}

// rows are the values of at most n words, each of them at an edge.
func rows(n int) []*big.Int {
	words := []uint32{0, 1, 1 << 31, 1<<31 - 1, 1<<32 - 1}
	l := []api.Int{{}}
	for from := 0; n > 0; n-- {
		to := len(l)
		for _, x := range l[from:to] {
			for _, word := range words {
				l = append(l, api.Int{Mag: append(slices.Clone(x.Mag), word)})
			}
		}
		from = to
	}
	var values []*big.Int
	for _, x := range l {
		if len(x.Mag) == 0 || x.Mag[len(x.Mag)-1] > 0 {
			values = append(values, value(x))
		}
	}
	return values
}

// anyOf is a value of at most 512 binary digits, its words often at an edge.
func anyOf(source *rand.Rand) *big.Int {
	x := api.Int{Neg: source.IntN(2) == 0, Mag: make([]uint32, source.IntN(17))}
	for i := range x.Mag {
		switch source.IntN(4) {
		case 0:
			x.Mag[i] = 1<<32 - 1
		case 1:
			x.Mag[i] = 1 << 31
		case 2:
			x.Mag[i] = source.Uint32()
		}
	}
	return value(x)
}

// told fails, unless x and e are v, in form, or ErrBig alone where v is large.
func told(t *testing.T, what string, x api.Int, e api.Errno, v *big.Int) {
	t.Helper()
	if large(v) {
		if e != api.ErrBig || x.Neg || len(x.Mag) > 0 {
			t.Fatalf("%s: %v, %d; want ErrBig alone", what, x, e)
		}
		return
	}
	if e != api.OK || !same(x, v) {
		t.Fatalf("%s: %v, %d; want %v", what, x, e, number(v))
	}
}

// The tests' own measures must not lean on what they measure.
func TestMeasures(t *testing.T) {
	if most.Text(10) != "13407807929942597099574024998205846127479365820592393377723561443721764030073546976801874298166903427690031858186486050853753882811946569946433649006084095" {
		t.Fatal("2^512 - 1")
	}
	for _, v := range edges() {
		for _, x := range shapes(v) {
			if value(x).Cmp(v) != 0 {
				t.Fatalf("%v is not %v", x, v)
			}
		}
	}
	if x := exact.Of(5); !same(x, big.NewInt(5)) || same(api.Int{Mag: []uint32{5, 0}}, big.NewInt(5)) || same(api.Int{Neg: true}, new(big.Int)) {
		t.Fatal("same")
	}
}
