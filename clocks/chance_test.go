package clocks_test

import (
	"math/rand"
	"testing"

	"recast/clocks"
)

// known is how many accesses of each goroutine somebody knows, as the chapter's words have it.
type known map[int]int

func (k known) copied() known {
	out := known{}
	for who, number := range k {
		out[who] = number
	}
	return out
}

func (k known) ahead(of known) bool {
	for who, number := range k {
		if of[who] < number {
			return false
		}
	}
	return true
}

// happened is an access.
type happened struct {
	who, number, cell int
	write             bool
}

// second is an Order that keeps all that ever happened.
type second struct {
	knows []known
	all   []happened
}

func (s *second) has(who int) bool { return who >= 0 && who < len(s.knows) }

func (s *second) start(by int) int {
	if !s.has(by) {
		return -1
	}
	s.knows = append(s.knows, s.knows[by].copied())
	return len(s.knows) - 1
}

func (s *second) access(who, cell int, write bool) bool {
	if !s.has(who) {
		return true
	}
	s.knows[who][who]++
	ordered := true
	for _, x := range s.all {
		if x.cell == cell && x.who != who && (write || x.write) && s.knows[who][x.who] < x.number {
			ordered = false
		}
	}
	s.all = append(s.all, happened{who, s.knows[who][who], cell, write})
	return ordered
}

func (s *second) receive(who int, k known) {
	if s.has(who) {
		for other, number := range k {
			s.knows[who][other] = max(s.knows[who][other], number)
		}
	}
}

// pair is a Clock with what the second reading says of it.
type pair struct {
	c *clocks.Clock
	k known
}

// world is an Order and its second reading.
type world struct {
	o *clocks.Order
	s *second
}

// play does one thing in both, and tells the clock that came of it, if any did.
func (w world) play(t *testing.T, r *rand.Rand, sent []pair) (pair, bool) {
	t.Helper()
	who := r.Intn(len(w.s.knows)+2) - 1
	cell := r.Intn(5) - 2
	switch p := r.Intn(20); {
	case p == 0 && len(w.s.knows) < 12:
		is(t, "Start", w.o.Start(who), w.s.start(who))
	case p < 6:
		is(t, "Read", w.o.Read(who, cell), w.s.access(who, cell, false))
	case p < 12:
		is(t, "Write", w.o.Write(who, cell), w.s.access(who, cell, true))
	case p < 15:
		c := w.o.Send(who)
		is(t, "Send", c == nil, !w.s.has(who))
		if c != nil {
			return pair{c, w.s.knows[who].copied()}, true
		}
	default:
		x := sent[r.Intn(len(sent))]
		w.o.Receive(who, x.c)
		w.s.receive(who, x.k)
	}
	return pair{}, false
}

// TestWords holds all calls against the chapter's words. Some of the clocks come from another Order.
func TestWords(t *testing.T) {
	for seed := range int64(600) {
		r := rand.New(rand.NewSource(seed))
		worlds := []world{{clocks.New(), &second{knows: []known{{}}}}, {clocks.New(), &second{knows: []known{{}}}}}
		sent := [][]pair{{{}, {&clocks.Clock{}, nil}}, {{}}}
		for range 200 {
			i := r.Intn(2)
			from := i
			if seed%3 == 0 {
				from = r.Intn(2)
			}
			if x, made := worlds[i].play(t, r, sent[from]); made {
				sent[i] = append(sent[i], x)
			}
		}
		all := append(sent[0], sent[1]...)
		for range 200 {
			a, b := all[r.Intn(len(all))], all[r.Intn(len(all))]
			is(t, "Ahead", worlds[r.Intn(2)].o.Ahead(a.c, b.c), a.k.ahead(b.k))
		}
		if t.Failed() {
			t.Fatalf("seed %d", seed)
		}
	}
}

// event is what a goroutine did; from are the numbers of those that it comes behind at once.
type event struct {
	happened
	from []int
}

// graph is what happened, and of each goroutine the number of its last event.
type graph struct {
	events []event
	last   []int
}

// add puts an event behind the last one of a goroutine, and behind another one, if that is not below 0.
func (g *graph) add(x happened, other int) {
	e := event{happened: x}
	for _, from := range []int{g.last[x.who], other} {
		if from >= 0 {
			e.from = append(e.from, from)
		}
	}
	g.last[x.who] = len(g.events)
	g.events = append(g.events, e)
}

// behind is from which events there is a way to one.
func (g *graph) behind(at int) map[int]bool {
	seen := map[int]bool{}
	for work := []int{at}; len(work) > 0; work = work[1:] {
		for _, from := range g.events[work[0]].from {
			if !seen[from] {
				seen[from] = true
				work = append(work, from)
			}
		}
	}
	return seen
}

// ordered tells whether the last event, an access, comes behind all that it has to be ordered with.
func (g *graph) ordered() bool {
	at := len(g.events) - 1
	seen, x := g.behind(at), g.events[at]
	for i, y := range g.events[:at] {
		if y.number > 0 && y.cell == x.cell && y.who != x.who && (x.write || y.write) && !seen[i] {
			return false
		}
	}
	return true
}

// TestHappensBefore holds accesses against ways through what happened (P16.5), whose events tell nothing of counts.
func TestHappensBefore(t *testing.T) {
	type letter struct {
		c  *clocks.Clock
		at int
	}
	for seed := range int64(300) {
		r := rand.New(rand.NewSource(seed))
		o, g := clocks.New(), &graph{last: []int{-1}}
		var letters []letter
		for range 120 {
			who, cell := r.Intn(len(g.last)), r.Intn(4)
			switch p := r.Intn(16); {
			case p == 0 && len(g.last) < 8:
				is(t, "Start", o.Start(who), len(g.last))
				g.last = append(g.last, g.last[who])
			case p < 5:
				g.add(happened{who, 1, cell, false}, -1)
				is(t, "Read", o.Read(who, cell), g.ordered())
			case p < 9:
				g.add(happened{who, 1, cell, true}, -1)
				is(t, "Write", o.Write(who, cell), g.ordered())
			case p < 12:
				letters = append(letters, letter{o.Send(who), g.last[who]})
			case len(letters) > 0:
				x := letters[r.Intn(len(letters))]
				o.Receive(who, x.c)
				g.add(happened{who: who}, x.at)
			}
		}
		if t.Failed() {
			t.Fatalf("seed %d", seed)
		}
	}
}

// TestKnowingGrows looks whether clocks of one goroutine are ahead of its later ones, and Ahead is an order (P16.5).
func TestKnowingGrows(t *testing.T) {
	r := rand.New(rand.NewSource(1))
	w := world{clocks.New(), &second{knows: []known{{}}}}
	last := map[int]*clocks.Clock{}
	sent := []pair{{}}
	for range 3000 {
		if x, made := w.play(t, r, sent); made {
			sent = append(sent, x)
		}
		for who := range w.s.knows {
			c := w.o.Send(who)
			is(t, "P16.5: what it knew", w.o.Ahead(last[who], c), true)
			last[who] = c
		}
	}
	for range 20000 {
		a, b, c := sent[r.Intn(len(sent))].c, sent[r.Intn(len(sent))].c, sent[r.Intn(len(sent))].c
		is(t, "P16.5: of itself", w.o.Ahead(a, a), true)
		if w.o.Ahead(a, b) && w.o.Ahead(b, c) && !w.o.Ahead(a, c) {
			t.Fatal("P16.5: Ahead is no order")
		}
	}
}
