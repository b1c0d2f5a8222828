package konst_test

import (
	"math/big"
	"slices"
	"testing"

	"recast/api"
	"recast/konst"
)

// roomy is c with words behind its Mag, and all of that memory.
func roomy(c api.Const) (api.Const, []uint32) {
	all := append(slices.Clone(c.Num.Mag), 11, 22, 33, 44)
	c.Num.Mag = all[:len(c.Num.Mag)]
	return c, all
}

// answers are all constants that calls answer of two.
func answers(a, b api.Const) []api.Const {
	konst.Equal(a, b)
	konst.Type(a)
	konst.Text(a)
	var l []api.Const
	for _, op := range allSigns {
		c, _ := konst.Unary(op, a)
		d, _ := konst.Binary(op, a, b)
		l = append(l, c, d)
	}
	return l
}

// spoil changes all words of a constant, its spare room too.
func spoil(c api.Const) {
	mag := c.Num.Mag[:cap(c.Num.Mag)]
	for i := range mag {
		mag[i] = 77777
	}
}

func TestMemory(t *testing.T) {
	var l []api.Const
	for _, v := range []*big.Int{new(big.Int), big.NewInt(1), big.NewInt(-3), power(32), new(big.Int).Neg(power(64)), power(200), most(), power(512)} {
		l = append(l, shapes(number(v))...)
	}
	for _, x := range l {
		for _, y := range l {
			a, allA := roomy(x)
			b, allB := roomy(y)
			keptA, keptB := slices.Clone(allA), slices.Clone(allB)
			first, second := answers(a, b), answers(a, b)
			want := slices.Clone(first)
			for i := range want {
				want[i].Num.Mag = slices.Clone(want[i].Num.Mag)
			}
			for i := range first {
				spoil(first[i])
				// Those not yet spoilt are as they were.
				for k := i + 1; k < len(first); k++ {
					if !same(first[k], want[k]) {
						t.Fatalf("P10.3: of %s, %s the answers %d and %d share memory", show(x), show(y), i, k)
					}
				}
			}
			if !slices.Equal(allA, keptA) || !slices.Equal(allB, keptB) {
				t.Fatalf("P10.3: %s, %s have become %v, %v", show(x), show(y), allA, allB)
			}
			spoil(a)
			spoil(b)
			for k := range second {
				if !same(second[k], want[k]) {
					t.Fatalf("P10.3: the answer %d keeps something of %s, %s", k, show(x), show(y))
				}
			}
		}
	}
}

// A number and itself: one argument handed in twice.
func TestOneTwice(t *testing.T) {
	a, all := roomy(number(power(100)))
	kept := slices.Clone(all)
	for _, c := range answers(a, a) {
		spoil(c)
	}
	if !slices.Equal(all, kept) {
		t.Errorf("P10.3: it became %v", all)
	}
}

// What Int and Type answer is new with each call.
func TestNewAnswers(t *testing.T) {
	for range 2 {
		c, k := konst.Int(-1<<40), konst.Type(konst.Int(1))
		if !same(c, number(big.NewInt(-1<<40))) || len(k.Kids)+len(k.Names)+len(k.Marks) > 0 {
			t.Fatalf("P10.3: %s, %v", show(c), k)
		}
		spoil(c)
	}
}
