package exact_test

import (
	"math/big"
	"slices"
	"testing"

	"recast/api"
	"recast/exact"
)

func TestSums(t *testing.T) {
	pairs(func(v, w *big.Int) {
		a, b := number(v), number(w)
		x, e := exact.Add(a, b)
		told(t, "P2.2: "+v.String()+" + "+w.String(), x, e, new(big.Int).Add(v, w))
		x, e = exact.Sub(a, b)
		told(t, "P2.2: "+v.String()+" - "+w.String(), x, e, new(big.Int).Sub(v, w))
	})
}

func TestProducts(t *testing.T) {
	pairs(func(v, w *big.Int) {
		x, e := exact.Mul(number(v), number(w))
		told(t, "P2.2: "+v.String()+" times "+w.String(), x, e, new(big.Int).Mul(v, w))
	})
}

// quo fails, unless Quo(a, b) is the quotient of v by w towards 0 and the rest, both in form.
func quo(t *testing.T, a, b api.Int, v, w *big.Int) {
	t.Helper()
	q, r, e := exact.Quo(a, b)
	if w.Sign() == 0 {
		if e != api.ErrZero || q.Neg || len(q.Mag) > 0 || r.Neg || len(r.Mag) > 0 {
			t.Fatalf("P2.2: Quo(%v, 0) is %v, %v, %d; want ErrZero alone", v, q, r, e)
		}
		return
	}
	quotient, rest := new(big.Int).QuoRem(v, w, new(big.Int))
	if e != api.OK || !same(q, quotient) || !same(r, rest) {
		t.Fatalf("P2.2: Quo(%v, %v) is %v, %v, %d; want %v, %v", v, w, q, r, e, quotient, rest)
	}
}

func TestQuotients(t *testing.T) {
	pairs(func(v, w *big.Int) {
		quo(t, number(v), number(w), v, w)
		quo(t, number(w), number(v), w, v)
	})
}

// The signs, with a rest and without.
func TestSmallQuotients(t *testing.T) {
	for _, x := range [][4]int{{7, 2, 3, 1}, {-7, 2, -3, -1}, {7, -2, -3, 1}, {-7, -2, 3, -1}, {6, -3, -2, 0}, {-6, -3, 2, 0}, {0, -5, 0, 0}, {1, 5, 0, 1}, {-1, 5, 0, -1}, {-1, -5, 0, -1}, {5, 5, 1, 0}, {-1 << 63, 1, -1 << 63, 0}} {
		q, r, e := exact.Quo(exact.Of(x[0]), exact.Of(x[1]))
		if e != api.OK || !same(q, big.NewInt(int64(x[2]))) || !same(r, big.NewInt(int64(x[3]))) {
			t.Errorf("P2.2: Quo(%d, %d) is %v, %v, %d; want %d, %d", x[0], x[1], q, r, e, x[2], x[3])
		}
	}
	if q, r, e := exact.Quo(exact.Of(-1<<63), exact.Of(-1)); e != api.OK || !same(q, power(63)) || len(r.Mag) > 0 {
		t.Errorf("P2.2: the least int by -1 is %v, %v, %d", q, r, e)
	}
}

// Values that are not in form count as the ones that are.
func TestValuesAlone(t *testing.T) {
	var l []*big.Int
	for _, s := range []string{"0", "1", "-1", "4294967296", "-18446744073709551615", most.Text(10), "-" + most.Text(10)} {
		l = append(l, value(num(s)))
	}
	for _, v := range l {
		for _, w := range l {
			for _, a := range shapes(v) {
				for _, b := range shapes(w) {
					x, e := exact.Add(a, b)
					told(t, "P2.2: Add", x, e, new(big.Int).Add(v, w))
					x, e = exact.Sub(a, b)
					told(t, "P2.2: Sub", x, e, new(big.Int).Sub(v, w))
					x, e = exact.Mul(a, b)
					told(t, "P2.2: Mul", x, e, new(big.Int).Mul(v, w))
					quo(t, a, b, v, w)
				}
			}
		}
	}
}

// The last results that are not large, and the first ones that are.
func TestLimit(t *testing.T) {
	top, one, two := number(most), exact.Of(1), exact.Of(2)
	half := number(power(511))
	for i, x := range []struct {
		call func(a, b api.Int) (api.Int, api.Errno)
		a, b api.Int
		want *big.Int
	}{
		{exact.Add, top, exact.Of(0), most}, {exact.Add, top, one, nil}, {exact.Add, half, half, nil}, {exact.Add, top, exact.Of(-1), new(big.Int).Sub(most, big.NewInt(1))}, {exact.Add, exact.Neg(top), exact.Of(-1), nil}, {exact.Add, top, exact.Neg(top), new(big.Int)},
		{exact.Sub, exact.Neg(top), one, nil}, {exact.Sub, exact.Neg(top), exact.Of(0), new(big.Int).Neg(most)}, {exact.Sub, top, top, new(big.Int)}, {exact.Sub, exact.Of(0), top, new(big.Int).Neg(most)}, {exact.Sub, top, exact.Of(-1), nil},
		{exact.Mul, half, two, nil}, {exact.Mul, number(power(510)), two, power(511)}, {exact.Mul, top, one, most}, {exact.Mul, top, exact.Of(-1), new(big.Int).Neg(most)}, {exact.Mul, top, exact.Of(0), new(big.Int)}, {exact.Mul, top, top, nil}, {exact.Mul, number(power(256)), exact.Neg(number(power(256))), nil}, {exact.Mul, number(power(255)), number(power(256)), power(511)},
	} {
		got, e := x.call(x.a, x.b)
		if x.want == nil {
			if e != api.ErrBig || got.Neg || len(got.Mag) > 0 {
				t.Errorf("P2.2: number %d is %v, %d; want ErrBig alone", i, got, e)
			}
		} else if e != api.OK || !same(got, x.want) {
			t.Errorf("P2.2: number %d is %v, %d; want %v", i, got, e, x.want)
		}
	}
}

// What is large is refused, whatever the other one and the result are; ErrBig is told ahead of ErrZero.
func TestLargeIsRefused(t *testing.T) {
	big1 := number(power(512))
	big2 := exact.Neg(big1)
	big3 := api.Int{Mag: make([]uint32, 40)}
	big3.Mag[39] = 1
	calls := []func(a, b api.Int) (api.Int, api.Errno){exact.Add, exact.Sub, exact.Mul,
		func(a, b api.Int) (q api.Int, e api.Errno) { q, _, e = exact.Quo(a, b); return q, e },
		func(a, b api.Int) (r api.Int, e api.Errno) { _, r, e = exact.Quo(a, b); return r, e },
	}
	for i, call := range calls {
		for _, a := range []api.Int{big1, big2, big3} {
			for _, b := range []api.Int{{}, {Neg: true, Mag: []uint32{0}}, exact.Of(1), exact.Of(-3), number(most), big1, big2, big3} {
				if x, e := call(a, b); e != api.ErrBig || x.Neg || len(x.Mag) > 0 {
					t.Errorf("P2.2: call %d of %v, %v is %v, %d; want ErrBig alone", i, a, b, x, e)
				}
				if x, e := call(b, a); e != api.ErrBig || x.Neg || len(x.Mag) > 0 {
					t.Errorf("P2.2: call %d of %v, %v is %v, %d; want ErrBig alone", i, b, a, x, e)
				}
			}
		}
	}
}

func TestDivisorZero(t *testing.T) {
	for _, v := range slices.DeleteFunc(edges(), large) {
		for _, zero := range shapes(new(big.Int)) {
			quo(t, number(v), zero, v, new(big.Int))
		}
	}
}

// equal is whether two answers are one.
func equal(x, y api.Int) bool {
	return x.Neg == y.Neg && slices.Equal(x.Mag, y.Mag)
}

func TestTurnedRound(t *testing.T) {
	pairs(func(v, w *big.Int) {
		a, b := number(v), number(w)
		x, e := exact.Add(a, b)
		if y, f := exact.Add(b, a); e != f || !equal(x, y) {
			t.Fatalf("P2.4: %v + %v is %v, %d; turned round %v, %d", v, w, x, e, y, f)
		}
		x, e = exact.Mul(a, b)
		if y, f := exact.Mul(b, a); e != f || !equal(x, y) {
			t.Fatalf("P2.4: %v times %v is %v, %d; turned round %v, %d", v, w, x, e, y, f)
		}
	})
}

// a is q b + r, told by the calls themselves.
func TestQuotientAndRest(t *testing.T) {
	zero := exact.Of(0)
	pairs(func(v, w *big.Int) {
		a, b := number(v), number(w)
		q, r, e := exact.Quo(a, b)
		if e == api.ErrZero && w.Sign() == 0 {
			return
		}
		p, e1 := exact.Mul(q, b)
		x, e2 := exact.Add(p, r)
		if e != api.OK || e1 != api.OK || e2 != api.OK || !equal(x, a) {
			t.Fatalf("P2.4: %v is not %v times %v + %v", v, q, w, r)
		}
		if s := exact.Compare(r, zero); s != 0 && s != exact.Compare(a, zero) {
			t.Fatalf("P2.4: the rest of %v by %v is %v", v, w, r)
		}
		if r.Neg {
			r = exact.Neg(r)
		}
		if b.Neg {
			b = exact.Neg(b)
		}
		if exact.Compare(r, b) >= 0 {
			t.Fatalf("P2.4: the rest of %v by %v is %v", v, w, r)
		}
	})
}

func TestWrittenExamples(t *testing.T) {
	q1, r1, e1 := exact.Quo(exact.Of(-7), exact.Of(2))
	q2, r2, e2 := exact.Quo(exact.Of(7), exact.Of(-2))
	if exact.Text(q1) != "-3" || exact.Text(r1) != "-1" || e1 != api.OK || exact.Text(q2) != "-3" || exact.Text(r2) != "1" || e2 != api.OK {
		t.Error("the examples of Quo")
	}
	if _, _, e := exact.Quo(exact.Of(1), exact.Of(0)); e != api.ErrZero {
		t.Error("Quo(1, 0)")
	}
	if _, e := exact.Mul(number(power(511)), exact.Of(2)); e != api.ErrBig {
		t.Error("Mul(2^511, 2)")
	}
	if v, ok := exact.Small(number(power(63))); v != 0 || ok {
		t.Error("Small(2^63)")
	}
}
