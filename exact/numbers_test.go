package exact_test

import (
	"math"
	"math/big"
	"math/rand/v2"
	"slices"
	"strings"
	"testing"

	"recast/api"
	"recast/exact"
)

func TestOf(t *testing.T) {
	for _, v := range []int{0, 1, -1, 7, -7, 1<<31 - 1, 1 << 31, 1<<32 - 1, 1 << 32, -1 << 32, 1<<32 + 1, 1 << 62, math.MaxInt, -math.MaxInt, math.MinInt, math.MinInt + 1} {
		if x := exact.Of(v); !same(x, big.NewInt(int64(v))) {
			t.Errorf("P2.1: Of(%d) is %v", v, x)
		}
		if got, ok := exact.Small(exact.Of(v)); got != v || !ok {
			t.Errorf("P2.1: Small(Of(%d)) is %d, %v", v, got, ok)
		}
	}
}

func TestSmall(t *testing.T) {
	for _, v := range edges() {
		want, there := 0, v.IsInt64()
		if there {
			want = int(v.Int64())
		}
		for _, x := range shapes(v) {
			if got, ok := exact.Small(x); got != want || ok != there {
				t.Errorf("P2.1: Small(%v) is %d, %v; want %d, %v", x, got, ok, want, there)
			}
		}
	}
	for s, there := range map[string]bool{"9223372036854775807": true, "9223372036854775808": false, "-9223372036854775808": true, "-9223372036854775809": false, "18446744073709551615": false, "-18446744073709551616": false, "79228162514264337593543950336": false} {
		if _, ok := exact.Small(num(s)); ok != there {
			t.Errorf("P2.1: Small(%s) is an int: %v", s, ok)
		}
	}
}

func TestCompare(t *testing.T) {
	l := edges()
	for _, v := range l {
		for _, w := range l {
			for _, a := range shapes(v) {
				for _, b := range shapes(w) {
					if got := exact.Compare(a, b); got != v.Cmp(w) {
						t.Fatalf("P2.1: Compare(%v, %v) is %d", a, b, got)
					}
				}
			}
		}
	}
	pairs(func(v, w *big.Int) {
		if got := exact.Compare(number(v), number(w)); got != v.Cmp(w) {
			t.Fatalf("P2.1: Compare(%v, %v) is %d", v, w, got)
		}
	})
}

func TestNeg(t *testing.T) {
	for _, v := range edges() {
		for _, x := range shapes(v) {
			if got := exact.Neg(x); !same(got, new(big.Int).Neg(v)) {
				t.Errorf("P2.1: Neg(%v) is %v", x, got)
			}
		}
	}
}

func TestParse(t *testing.T) {
	for _, s := range []string{"0", "1", "9", "10", "100", "4294967295", "4294967296", "999999999", "1000000000", "1000000001", "999999999999999999", "18446744073709551615", "18446744073709551616", "1000000000000000000000", "123456789012345678901234567890", most.Text(10), "1" + strings.Repeat("0", 154), strings.Repeat("9", 154)} {
		if x, e := exact.Parse(s); e != api.OK || !same(x, value(num(s))) {
			t.Errorf("P2.3: Parse(%s) is %v, %d", s, x, e)
		}
	}
}

func TestParseRefusesBig(t *testing.T) {
	for _, s := range []string{power(512).Text(10), new(big.Int).Add(power(512), big.NewInt(1)).Text(10), "2" + strings.Repeat("0", 154), strings.Repeat("9", 155), "1" + strings.Repeat("0", 155), strings.Repeat("9", 162), "1" + strings.Repeat("0", 162), strings.Repeat("7", 100000)} {
		if x, e := exact.Parse(s); e != api.ErrBig || x.Neg || len(x.Mag) > 0 {
			t.Errorf("P2.3: Parse of %d digits is %v, %d; want ErrBig alone", len(s), x, e)
		}
	}
}

func TestParseRefusesText(t *testing.T) {
	long := strings.Repeat("1", 400)
	for _, s := range []string{"", "00", "01", "000", "-1", "-0", "+1", "-", " 1", "1 ", "1\n", "1_000", "1a", "a1", "0x10", "0a", "1.0", "1e3", "/", ":", "1/", "1:", "1\x00", "\x00", "\xff", "1\xff", "\u0661", "\uff11", "1\u0661", long + "x", "x" + long, "0" + long, long + "\x00", "-" + long} {
		if x, e := exact.Parse(s); e != api.ErrText || x.Neg || len(x.Mag) > 0 {
			t.Errorf("P2.3: Parse(%q) is %v, %d; want ErrText alone", s, x, e)
		}
	}
	for b := range 256 {
		digit := b >= '0' && b <= '9'
		if _, e := exact.Parse("1" + string([]byte{byte(b)})); (e == api.OK) != digit {
			t.Errorf("P2.3: a 1 and the byte %d: %d", b, e)
		}
		if _, e := exact.Parse(string([]byte{byte(b)}) + "5"); (e == api.OK) != (digit && b != '0') {
			t.Errorf("P2.3: the byte %d and a 5: %d", b, e)
		}
	}
}

func TestText(t *testing.T) {
	for _, v := range edges() {
		for _, x := range shapes(v) {
			if got := exact.Text(x); got != v.Text(10) {
				t.Errorf("P2.3: Text(%v) is %s", x, got)
			}
		}
	}
	if got := exact.Text(exact.Of(math.MinInt)); got != "-9223372036854775808" {
		t.Errorf("P2.3: Text of the least int is %s", got)
	}
}

// Noughts within a number stand on the seams of its pieces, and a large one takes several rows of them.
func TestTextOfManyDigits(t *testing.T) {
	for _, n := range []int{8, 9, 10, 17, 18, 19, 153, 161, 162, 163, 170, 171, 172, 323, 324, 325, 1000} {
		for _, s := range []string{"1" + strings.Repeat("0", n), strings.Repeat("9", n), "1" + strings.Repeat("0", n-1) + "1", strings.Repeat("1234567890", n)[:n]} {
			if got := exact.Text(num(s)); got != s {
				t.Fatalf("P2.3: Text of %s is %s", s, got)
			}
			if got := exact.Text(num("-" + s)); got != "-"+s {
				t.Fatalf("P2.3: Text of -%s is %s", s, got)
			}
		}
	}
	mag := slices.Repeat([]uint32{1<<32 - 1}, 2000)
	if got := exact.Text(api.Int{Mag: mag}); got != new(big.Int).Sub(power(64000), big.NewInt(1)).Text(10) {
		t.Error("P2.3: Text of 2000 words")
	}
}

func TestParseOfText(t *testing.T) {
	check := func(v *big.Int) {
		v = new(big.Int).Abs(v)
		if x, e := exact.Parse(exact.Text(number(v))); e != api.OK || !same(x, v) {
			t.Fatalf("P2.4: Parse(Text(%v)) is %v, %d", v, x, e)
		}
	}
	for _, v := range slices.DeleteFunc(edges(), large) {
		check(v)
	}
	for _, v := range rows(4) {
		check(v)
	}
	source := rand.New(rand.NewPCG(24, 512))
	for range 5000 {
		check(anyOf(source))
	}
}
