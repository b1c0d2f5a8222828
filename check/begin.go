package check

import (
	"container/heap"
	"maps"
	"slices"
	"sort"
)

// queue is numbers of which the least comes out first.
type queue struct{ sort.IntSlice }

// Push lays a number behind the others.
func (q *queue) Push(x any) { q.IntSlice = append(q.IntSlice, x.(int)) }

// Pop takes the last number away.
func (q *queue) Pop() any {
	last := len(q.IntSlice) - 1
	x := q.IntSlice[last]
	q.IntSlice = q.IntSlice[:last]
	return x
}

// beginning is the variables and functions of a package, by their numbers, while the variables begin. A function has
// no time of its own: it holds back what needs it for as long as it needs itself what has not begun. Functions that
// need one another are one knot, as each of them would wait for the others.
type beginning struct {
	needs     map[int][]int
	isVar     func(number int) bool
	met       map[int]int   // functions, by the order in which they were met, from 1 on
	open      []int         // those of them whose knot is not known yet
	knots     map[int]int   // by which one a function's knot is told; a variable is one by itself
	waits     map[int]int   // how often a knot needs what has not begun
	followers map[int][]int // the knots that need one, as often as they do
	ready     queue
}

// begin is the variables in the order in which they begin: of those that need none which has not begun the least
// one is the next. Those that never can are wanting.
func begin(needs map[int][]int, isVar func(number int) bool) []int {
	b := &beginning{needs: needs, isVar: isVar, met: map[int]int{}, knots: map[int]int{}, waits: map[int]int{}, followers: map[int][]int{}}
	numbers := slices.Sorted(maps.Keys(needs))
	for _, n := range numbers {
		if isVar(n) {
			b.knots[n] = n
		} else if b.met[n] == 0 {
			b.tie(n)
		}
	}
	b.link(numbers)
	var free []int
	for _, n := range numbers {
		if b.knots[n] == n && b.waits[n] == 0 {
			free = append(free, n)
		}
	}
	for _, n := range free {
		b.free(n)
	}
	var order []int
	for b.ready.Len() > 0 {
		n := heap.Pop(&b.ready).(int)
		order = append(order, n)
		b.release(n)
	}
	return order
}

// tie finds out the knots of a function and of all that it needs, and is the order of the first met function that
// it may be in one with.
func (b *beginning) tie(f int) int {
	b.met[f] = len(b.met) + 1
	first := b.met[f]
	b.open = append(b.open, f)
	for _, g := range b.needs[f] {
		_, known := b.knots[g]
		switch {
		case known || b.isVar(g):
		case b.met[g] == 0:
			first = min(first, b.tie(g))
		default:
			first = min(first, b.met[g])
		}
	}
	if first == b.met[f] {
		for closed := false; !closed; {
			last := len(b.open) - 1
			closed = b.open[last] == f
			b.knots[b.open[last]] = f
			b.open = b.open[:last]
		}
	}
	return first
}

// link finds out who waits for whom.
func (b *beginning) link(numbers []int) {
	for _, n := range numbers {
		for _, m := range b.needs[n] {
			from, to := b.knots[n], b.knots[m]
			if from != to || b.isVar(n) {
				b.waits[from]++
				b.followers[to] = append(b.followers[to], from)
			}
		}
	}
}

// free lets a knot go on that waits for nothing any more.
func (b *beginning) free(knot int) {
	if b.isVar(knot) {
		heap.Push(&b.ready, knot)
		return
	}
	b.release(knot)
}

// release tells those that wait for a knot that it holds them back no more.
func (b *beginning) release(knot int) {
	for _, f := range b.followers[knot] {
		b.waits[f]--
		if b.waits[f] == 0 {
			b.free(f)
		}
	}
}
