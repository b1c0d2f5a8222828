package clocks_test

import (
	"math"
	"testing"

	"recast/clocks"
)

// numbers are some that no goroutine of a small Order has.
var numbers = []int{-1, -2, 3, 4, 1 << 31, 1<<32 + 1, math.MinInt, math.MaxInt}

func TestNew(t *testing.T) {
	o := clocks.New()
	is(t, "P16.1: it knows nothing", o.Ahead(o.Send(0), nil), true)
	is(t, "P16.1: 0 is there", o.Start(0), 1)
	p := clocks.New()
	is(t, "another one begins anew", []any{p.Start(1), p.Start(0), p.Start(1), o.Start(2), o.Start(1)}, "[-1 1 2 -1 2]")
}

func TestStart(t *testing.T) {
	o := clocks.New()
	is(t, "P16.1: numbers rise", []any{o.Start(0), o.Start(0), o.Start(1), o.Start(3), o.Start(3)}, "[1 2 3 4 5]")
	for _, by := range []int{-1, 6, 7, math.MinInt, math.MaxInt, 1 << 32} {
		is(t, "P16.1: no such goroutine", o.Start(by), -1)
	}
	is(t, "P16.1: none was made", []any{o.Start(5), o.Start(6), o.Start(8)}, "[6 7 -1]")
}

func TestStartKnows(t *testing.T) {
	o := clocks.New()
	o.Write(0, 1)
	one := o.Start(0)
	is(t, "P16.1: 1 knows what 0 knew", []any{o.Write(one, 1), o.Ahead(o.Send(0), o.Send(one)), o.Ahead(o.Send(one), o.Send(0))}, "[true true false]")
	is(t, "P16.1: 0 does not learn from 1", []any{o.Read(0, 1), o.Write(0, 2)}, "[false true]")
	is(t, "P16.1: nor 1 from 0 any more", o.Read(one, 2), false)
	two := o.Start(one)
	is(t, "P16.1: 2 knows all that 1 does, and no more", []any{o.Read(two, 1), o.Read(two, 2)}, "[true false]")
	is(t, "P16.1: of 0 the access ahead of Start alone", []any{o.Write(0, 3), o.Start(1), o.Write(3, 3)}, "[true 3 false]")
}

func TestStartsKnowTheSame(t *testing.T) {
	o := clocks.New()
	o.Write(0, 1)
	a, b := o.Start(0), o.Start(0)
	is(t, "P16.1", []any{o.Ahead(o.Send(a), o.Send(b)), o.Ahead(o.Send(b), o.Send(a)), o.Ahead(o.Send(0), o.Send(a)), o.Ahead(o.Send(a), o.Send(0))}, "[true true true true]")
	o.Write(a, 2)
	is(t, "each has a count of its own", []any{o.Ahead(o.Send(a), o.Send(b)), o.Write(b, 2), o.Ahead(o.Send(a), o.Send(b)), o.Ahead(o.Send(b), o.Send(a))}, "[false false false false]")
}

// TestPairs holds every two accesses of one cell against each other.
func TestPairs(t *testing.T) {
	for _, x := range []struct {
		first, second string
		want          bool
	}{{"read", "read", true}, {"read", "write", false}, {"write", "read", false}, {"write", "write", false}} {
		for _, cell := range []int{0, 7, -1, math.MinInt, math.MaxInt, 1 << 32} {
			access := func(o *clocks.Order, what string, who, cell int) bool {
				if what == "read" {
					return o.Read(who, cell)
				}
				return o.Write(who, cell)
			}
			for _, pair := range [][2]int{{0, 1}, {1, 0}, {1, 2}, {2, 1}} {
				name := x.first + " " + x.second
				o := started(t, 3)
				is(t, name, access(o, x.first, pair[0], cell), true)
				is(t, name+" of others", access(o, x.second, pair[1], cell), x.want)
				o = started(t, 3)
				access(o, x.first, pair[0], cell)
				is(t, name+" of one", access(o, x.second, pair[0], cell), true)
				o = started(t, 3)
				access(o, x.first, pair[0], cell)
				is(t, name+" of another cell", access(o, x.second, pair[1], cell+1), true)
				o = started(t, 3)
				access(o, x.first, pair[0], cell)
				o.Receive(pair[1], o.Send(pair[0]))
				is(t, name+" behind a Clock", access(o, x.second, pair[1], cell), true)
				o = started(t, 3)
				c := o.Send(pair[0])
				access(o, x.first, pair[0], cell)
				o.Receive(pair[1], c)
				is(t, name+" ahead of a Clock", access(o, x.second, pair[1], cell), x.want)
			}
		}
	}
}

// TestBeyondTheLast looks at accesses behind which the same goroutine has another one, that does or doesn't matter.
func TestBeyondTheLast(t *testing.T) {
	o := started(t, 2)
	o.Write(0, 1)
	o.Read(0, 1)
	is(t, "a write with a read behind it", o.Read(1, 1), false)
	o = started(t, 2)
	o.Read(0, 1)
	o.Write(0, 1)
	is(t, "a read with a write behind it", o.Read(1, 1), false)
	o = started(t, 2)
	o.Write(0, 1)
	c := o.Send(0)
	o.Read(0, 1)
	o.Receive(1, c)
	is(t, "the write is known, the read is not", []any{o.Read(1, 1), o.Write(1, 1)}, "[true false]")
	o = started(t, 2)
	o.Read(0, 1)
	c = o.Send(0)
	o.Write(0, 1)
	o.Receive(1, c)
	is(t, "the read is known, the write is not", []any{o.Read(1, 1), o.Write(1, 1)}, "[false false]")
	o = started(t, 2)
	o.Write(0, 1)
	c = o.Send(0)
	o.Write(0, 2)
	o.Receive(1, c)
	is(t, "an access of another cell is not", []any{o.Write(1, 1), o.Read(1, 2)}, "[true false]")
}

// TestNotOrderedStays looks whether what was not ordered once stays so.
func TestNotOrderedStays(t *testing.T) {
	o := started(t, 3)
	is(t, "P16.2", []any{o.Write(0, 1), o.Write(1, 1), o.Write(1, 1), o.Read(1, 1), o.Write(0, 1)}, "[true false false false false]")
	o.Receive(2, o.Send(1))
	is(t, "P16.2: knows of 1's, not of 0's", o.Read(2, 1), false)
	o.Receive(2, o.Send(0))
	is(t, "P16.2: knows of both", []any{o.Read(2, 1), o.Write(2, 1)}, "[true true]")
	is(t, "P16.2: one that was not ordered counts too", []any{o.Read(0, 1), o.Write(0, 2), o.Read(1, 2)}, "[false true false]")
}

// TestReadsDoNotHide looks whether many readers are all held against a write.
func TestReadsDoNotHide(t *testing.T) {
	for without := range 6 {
		o := started(t, 6)
		for who := range 6 {
			is(t, "P16.2: reads", o.Read(who, 1), true)
		}
		for who := range 5 {
			if who != without {
				o.Receive(5, o.Send(who))
			}
		}
		is(t, "P16.2: a write behind all reads, but perhaps one", o.Write(5, 1), without == 5)
	}
}

func TestNoSuchGoroutine(t *testing.T) {
	o := started(t, 3)
	o.Write(0, 1)
	c := o.Send(0)
	for _, who := range numbers {
		is(t, "P16.2: true of none", []any{o.Read(who, 1), o.Write(who, 1), o.Write(who, 2)}, "[true true true]")
		is(t, "P16.3: nil of none", o.Send(who) == nil, true)
		o.Receive(who, c)
		o.Receive(who, nil)
	}
	is(t, "P16.2: nothing happens", []any{o.Write(1, 2), o.Read(2, 2), o.Write(0, 1), o.Start(0)}, "[true false true 3]")
	o.Receive(3, c)
	is(t, "P16.3: 3 was there too late to know of c", o.Ahead(o.Send(3), o.Send(0)), true)
}

func TestReceive(t *testing.T) {
	o := started(t, 3)
	o.Write(0, 1)
	o.Write(1, 2)
	o.Write(2, 3)
	o.Receive(2, o.Send(0))
	is(t, "P16.3: 2 knows of 0, not of 1", []any{o.Read(2, 1), o.Read(2, 2), o.Read(2, 3)}, "[true false true]")
	o.Receive(2, o.Send(1))
	is(t, "P16.3: of both", []any{o.Read(2, 1), o.Read(2, 2)}, "[true true]")
	old := o.Send(0)
	o.Write(0, 1)
	o.Receive(1, o.Send(0))
	o.Receive(1, old)
	is(t, "P16.3: the greater of both", o.Read(1, 1), true)
	before := o.Send(1)
	o.Receive(1, nil)
	o.Receive(1, &clocks.Clock{})
	is(t, "P16.3: nil knows nothing", []any{o.Ahead(before, o.Send(1)), o.Ahead(o.Send(1), before)}, "[true true]")
	o.Receive(0, o.Send(1))
	o.Receive(0, o.Send(2))
	is(t, "P16.3: knowing goes on", []any{o.Write(0, 1), o.Write(0, 2), o.Write(0, 3)}, "[true true true]")
}

func TestAhead(t *testing.T) {
	o := started(t, 3)
	o.Write(0, 1)
	o.Write(1, 1)
	a, b := o.Send(0), o.Send(1)
	o.Receive(2, a)
	one := o.Send(2)
	o.Receive(2, b)
	both := o.Send(2)
	o.Write(0, 1)
	later := o.Send(0)
	zero := &clocks.Clock{}
	row := []*clocks.Clock{nil, zero, a, b, one, both, later}
	want := []string{"1111111", "1111111", "0010111", "0001010", "0010111", "0000010", "0000001"}
	for i, x := range row {
		for k, y := range row {
			if got := o.Ahead(x, y); got != (want[i][k] == '1') {
				t.Errorf("P16.3: Ahead of clocks %d and %d: %v", i, k, got)
			}
		}
	}
}

func TestNil(t *testing.T) {
	var o *clocks.Order
	p := started(t, 2)
	p.Write(0, 1)
	c := p.Send(0)
	for _, n := range append(numbers, 0, 1, 2) {
		is(t, "P16.4", []any{o.Start(n), o.Read(n, 1), o.Write(n, 1), o.Send(n) == nil}, "[-1 true true true]")
		o.Receive(n, c)
		o.Receive(n, nil)
	}
	is(t, "P16.4", []any{o.Ahead(nil, nil), o.Ahead(c, c), o.Ahead(nil, c), o.Ahead(c, nil)}, "[true true true true]")
	is(t, "the Clock stays as it was", []any{p.Ahead(c, p.Send(0)), p.Ahead(p.Send(0), c)}, "[true true]")
}

// TestZero looks whether an Order that New did not make can be asked.
func TestZero(t *testing.T) {
	o := &clocks.Order{}
	p := started(t, 2)
	p.Write(0, 1)
	c := p.Send(0)
	for _, n := range append(numbers, 0, 1) {
		is(t, "no goroutine", []any{o.Start(n), o.Read(n, 1), o.Write(n, 1), o.Send(n) == nil}, "[-1 true true true]")
		o.Receive(n, c)
	}
	is(t, "clocks alone", []any{o.Ahead(nil, c), o.Ahead(c, nil)}, "[true false]")
}

// TestOrdersApart looks whether Orders have nothing in common but the clocks that are handed from one to the other.
func TestOrdersApart(t *testing.T) {
	o, p := started(t, 2), started(t, 2)
	is(t, "each its own cells", []any{o.Write(0, 1), p.Write(1, 1), o.Write(0, 1), p.Write(1, 1)}, "[true true true true]")
	c := o.Send(0)
	p.Receive(0, c)
	is(t, "a Clock of another Order", []any{p.Ahead(c, p.Send(0)), p.Ahead(c, p.Send(1)), p.Write(0, 1), p.Write(1, 1)}, "[true false false false]")
}
