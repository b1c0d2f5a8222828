package clocks_test

import (
	"testing"

	"recast/clocks"
)

// TestClockStays looks whether a Clock is what somebody knew, whatever happens behind it.
func TestClockStays(t *testing.T) {
	o := started(t, 4)
	o.Write(0, 1)
	o.Write(2, 1)
	o.Receive(2, o.Send(0))
	c := o.Send(2)
	o.Write(2, 2)
	o.Receive(2, o.Send(1))
	o.Write(2, 2)
	o.Receive(3, c)
	is(t, "3 knows what 2 knew then", []any{o.Read(3, 1), o.Read(3, 2)}, "[true false]")
	is(t, "c knows as much", []any{o.Ahead(o.Send(0), c), o.Ahead(o.Send(2), c), o.Ahead(o.Send(3), c)}, "[true false false]")
}

// TestClockIsNotKept looks whether a Clock that was received changes with who received it.
func TestClockIsNotKept(t *testing.T) {
	o := started(t, 4)
	o.Write(2, 1)
	c := o.Send(2)
	o.Receive(0, c)
	o.Receive(1, c)
	for range 3 {
		o.Write(0, 2)
		o.Write(1, 3)
	}
	o.Receive(3, c)
	is(t, "3 knows what c knew", []any{o.Read(3, 1), o.Read(3, 2), o.Read(3, 3)}, "[true false false]")
	is(t, "0 and 1 know nothing of each other", []any{o.Read(0, 3), o.Read(1, 2)}, "[false false]")
	is(t, "and c neither", []any{o.Ahead(o.Send(0), c), o.Ahead(o.Send(1), c), o.Ahead(c, o.Send(0))}, "[false false true]")
}

// TestStartIsApart looks whether a goroutine and the one that started it know apart from each other.
func TestStartIsApart(t *testing.T) {
	o := clocks.New()
	o.Write(0, 1)
	o.Start(0)
	o.Start(0)
	for range 3 {
		o.Write(0, 2)
		o.Write(1, 3)
		o.Write(2, 4)
	}
	is(t, "0", []any{o.Read(0, 2), o.Read(0, 3), o.Read(0, 4)}, "[true false false]")
	is(t, "1", []any{o.Read(1, 2), o.Read(1, 3), o.Read(1, 4)}, "[false true false]")
	is(t, "2", []any{o.Read(2, 2), o.Read(2, 3), o.Read(2, 4)}, "[false false true]")
}

// TestRoom looks whether what a goroutine learns between two others' counts lands with another that knew the same.
func TestRoom(t *testing.T) {
	o := started(t, 6)
	for who := range 6 {
		o.Write(who, who)
	}
	for _, from := range []int{5, 1, 3} {
		o.Receive(0, o.Send(from))
	}
	a, b := o.Send(0), o.Send(0)
	o.Receive(2, a)
	o.Receive(4, b)
	o.Write(2, 7)
	o.Write(4, 8)
	is(t, "2", []any{o.Read(2, 0), o.Read(2, 1), o.Read(2, 2), o.Read(2, 3), o.Read(2, 4), o.Read(2, 5), o.Read(2, 8)}, "[true true true true false true false]")
	is(t, "4", []any{o.Read(4, 0), o.Read(4, 1), o.Read(4, 2), o.Read(4, 3), o.Read(4, 4), o.Read(4, 5), o.Read(4, 7)}, "[true true false true true true false]")
	is(t, "the clocks", []any{o.Ahead(a, b), o.Ahead(b, a)}, "[true true]")
}

// TestMany looks at as many goroutines, cells and accesses as a run may have, and more.
func TestMany(t *testing.T) {
	o := started(t, 200)
	for cell := range 200000 {
		if !o.Write(199, cell) {
			t.Fatal("a first access")
		}
	}
	o.Receive(0, o.Send(199))
	for i := range 300000 {
		if !o.Read(0, i%200000) || o.Read(i%198+1, i%200000) {
			t.Fatal("a read")
		}
	}
	o = clocks.New()
	for i := range 20000 {
		o.Write(i, i)
		is(t, "Start", o.Start(0), i+1)
	}
	is(t, "20000 goroutines", []any{o.Read(7, 8), o.Read(7, 0), o.Read(20000, 0), o.Read(20000, 19999)}, "[false true true false]")
}

// TestManyReaders looks at many goroutines that all read one cell, and a write behind them.
func TestManyReaders(t *testing.T) {
	o := started(t, 1000)
	for who := range 1000 {
		o.Read(who, 1)
	}
	for who := range 999 {
		is(t, "not all are known", o.Write(0, 1) || o.Ahead(o.Send(who+1), o.Send(0)), false)
		o.Receive(0, o.Send(who+1))
	}
	is(t, "all are known", o.Write(0, 1), true)
}

// TestOrderHangsOnNothingElse plays the same in two Orders at a time.
func TestOrderHangsOnNothingElse(t *testing.T) {
	a, b := clocks.New(), clocks.New()
	for _, o := range []*clocks.Order{a, b, a, b} {
		o.Start(0)
	}
	for i := range 50 {
		is(t, "Write", a.Write(i%3, i%4), b.Write(i%3, i%4))
		is(t, "Read", a.Read(i%2, i%5), b.Read(i%2, i%5))
		a.Receive(i%3, a.Send(i%2))
		b.Receive(i%3, b.Send(i%2))
		is(t, "Send", []any{a.Ahead(a.Send(1), b.Send(1)), a.Ahead(b.Send(1), a.Send(1))}, "[true true]")
	}
}
