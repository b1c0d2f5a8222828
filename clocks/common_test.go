package clocks_test

import (
	"fmt"
	"testing"

	"recast/clocks"
)

// is holds what was told against what should be.
func is(t *testing.T, what string, got, want any) {
	t.Helper()
	if fmt.Sprint(got) != fmt.Sprint(want) {
		t.Errorf("%s: %v, want %v", what, got, want)
	}
}

// started is an Order with so many goroutines, all of which know nothing.
func started(t *testing.T, number int) *clocks.Order {
	t.Helper()
	o := clocks.New()
	for i := 1; i < number; i++ {
		is(t, "Start", o.Start(0), i)
	}
	return o
}
