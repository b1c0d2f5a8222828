package exact_test

import (
	"math/big"
	"slices"
	"testing"

	"recast/api"
	"recast/exact"
)

// roomy is x with words behind its Mag, and all of that memory.
func roomy(x api.Int) (api.Int, []uint32) {
	all := append(slices.Clone(x.Mag), 11, 22, 33, 44)
	x.Mag = all[:len(x.Mag)]
	return x, all
}

// answers are all Ints that the calls answer of two.
func answers(a, b api.Int) []api.Int {
	exact.Small(a)
	exact.Compare(a, b)
	exact.Text(a)
	sum, _ := exact.Add(a, b)
	difference, _ := exact.Sub(a, b)
	product, _ := exact.Mul(a, b)
	q, r, _ := exact.Quo(a, b)
	back, _, _ := exact.Quo(product, b)
	return []api.Int{exact.Neg(a), sum, difference, product, q, r, back}
}

// copies are the same Ints in memory of their own.
func copies(l []api.Int) []api.Int {
	l = slices.Clone(l)
	for i := range l {
		l[i].Mag = slices.Clone(l[i].Mag)
	}
	return l
}

func TestMemory(t *testing.T) {
	var l []api.Int
	for _, v := range []string{"0", "1", "-3", "4294967295", "-4294967296", "18446744073709551616", "340282366920938463463374607431768211455", most.Text(10), power(512).Text(10)} {
		l = append(l, shapes(value(num(v)))...)
	}
	for _, x := range l {
		for _, y := range l {
			a, allA := roomy(x)
			b, allB := roomy(y)
			keptA, keptB := slices.Clone(allA), slices.Clone(allB)
			first, second := answers(a, b), answers(a, b)
			if !slices.Equal(allA, keptA) || !slices.Equal(allB, keptB) {
				t.Fatalf("P2.5: %v, %v have become %v, %v", x, y, allA, allB)
			}
			want := copies(first)
			for i := range first {
				// Each list of words is spoilt with its spare room, and no other may change.
				spoilt := first[i].Mag[:cap(first[i].Mag)]
				for k := range spoilt {
					spoilt[k] = 77777
				}
				first[i].Mag = nil
				for k := range first {
					if first[k].Mag != nil && !equal(first[k], want[k]) || !equal(second[k], want[k]) {
						t.Fatalf("P2.5: of %v, %v the answers %d and %d share memory", x, y, i, k)
					}
				}
			}
			if !slices.Equal(allA, keptA) || !slices.Equal(allB, keptB) {
				t.Fatalf("P2.5: an answer shares memory with %v or %v", x, y)
			}
			for i := range allA {
				allA[i] = 88888
			}
			for i := range allB {
				allB[i] = 99999
			}
			for k := range second {
				if !equal(second[k], want[k]) {
					t.Fatalf("P2.5: the answer %d keeps %v or %v", k, x, y)
				}
			}
		}
	}
}

// What Of and Parse answer is new too.
func TestNewNumbers(t *testing.T) {
	for range 2 {
		x := exact.Of(-1 << 40)
		y, _ := exact.Parse("1000000000000000000000")
		if !same(x, big.NewInt(-1<<40)) || !same(y, value(num("1000000000000000000000"))) {
			t.Fatalf("P2.5: %v, %v", x, y)
		}
		clear(x.Mag)
		clear(y.Mag)
	}
}
