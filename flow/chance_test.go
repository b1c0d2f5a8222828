package flow_test

import (
	"math/rand/v2"
	"runtime/debug"
	"slices"
	"strings"
	"sync/atomic"
	"testing"

	"recast/api"
	"recast/flow"
	"recast/tree"
)

// TestMain lets memory be gathered up seldom: what is made by chance is small and much, and doing so costs more than
// all else that the tests do.
func TestMain(m *testing.M) {
	debug.SetGCPercent(1000)
	m.Run()
}

// tries is how many functions are made.
const tries = 300

// eachTry does something with functions made by chance, many at a time.
func eachTry(t *testing.T, begin uint64, do func(t *testing.T, w *writer, s source)) {
	t.Run("", func(t *testing.T) {
		for seed := range uint64(tries) {
			t.Run("", func(t *testing.T) {
				t.Parallel()
				w := &writer{Rand: rand.New(rand.NewPCG(begin, seed))}
				w.function()
				do(t, w, checked(t, "main/a.gc", w.String(), "b/b.gc", beside))
			})
		}
	})
}

// place is where a node stands.
func place(n api.Node) span { return span{n.From, n.To} }

// made is the nodes of what was made by chance.
func (s source) made(w *writer) []api.Node {
	var out []api.Node
	for _, n := range tree.All(last(s.tree)) {
		if n.From >= w.begin && n.To > n.From {
			out = append(out, n)
		}
	}
	return out
}

// first tells whether what stands in a span is evaluated first in a statement.
func first(stmt *piece, e span) bool {
	all := stmt.order(true)
	i := slices.IndexFunc(all, func(x step) bool { return x.span == e })
	if i < 0 || i == len(all)-1 || !all[i].sure {
		return false
	}
	return !slices.ContainsFunc(all[:i], func(x step) bool { return !e.holds(x.span) && !x.inert() })
}

func TestOrderByChance(t *testing.T) {
	var firsts, others, inerts, rest atomic.Int64
	eachTry(t, 15, func(t *testing.T, w *writer, s source) {
		stmts, pieces := map[span]*piece{}, map[span]*piece{}
		for _, p := range w.stmts {
			stmts[p.span] = p
		}
		for _, p := range w.pieces {
			pieces[p.span] = p
		}
		shared := s.shared()
		for _, n := range s.made(w) {
			if p := pieces[place(n)]; tree.Expr(n) && p != nil {
				got := flow.Inert(s.Result, s.path, shared, n)
				if got != p.inert() {
					t.Fatalf("P15.2: Inert of %s is %v in\n%s", s.said(n), got, s.text)
				}
				count(got, &inerts, &rest)
			}
			if !tree.Stmt(n) {
				continue
			}
			stmt := stmts[place(n)]
			if stmt == nil {
				t.Fatalf("%s was not written as a statement in\n%s", s.said(n), s.text)
			}
			for _, e := range tree.All(n) {
				if !tree.Expr(e) {
					continue
				}
				got := flow.First(s.Result, s.path, shared, n, e)
				if got != first(stmt, place(e)) {
					t.Fatalf("P15.3: First of %s, %s is %v in\n%s", s.said(n), s.said(e), got, s.text)
				}
				count(got, &firsts, &others)
			}
		}
	})
	if min(firsts.Load(), others.Load(), inerts.Load(), rest.Load()) < 20*tries {
		t.Errorf("%d were First, %d not, %d Inert, %d not: that is not much of a test", firsts.Load(), others.Load(), inerts.Load(), rest.Load())
	}
}

// count counts an answer.
func count(yes bool, these, others *atomic.Int64) {
	if !yes {
		these = others
	}
	these.Add(1)
}

// called is the names of variables that something holds of, by the order of letters.
func called(all []*variable, holds func(v *variable) bool) string {
	var out []string
	for _, v := range all {
		if holds(v) {
			out = append(out, v.name)
		}
	}
	slices.Sort(out)
	return strings.Join(out, " ")
}

// within tells whether a variable has an event in a span.
func within(events []event, root span) func(v *variable) bool {
	return func(v *variable) bool {
		return slices.ContainsFunc(events, func(e event) bool { return e.of == v && root.holds(e.span) })
	}
}

// leavesBy tells whether control leaves a span.
func (w *writer) leavesBy(root span) bool {
	return slices.ContainsFunc(w.jumps, func(j jump) bool {
		return w.outside(j.span, root) && (j.means == nil || !root.holds(*j.means))
	})
}

func TestVariablesByChance(t *testing.T) {
	var shared, stored, leaving, recovering, none atomic.Int64
	eachTry(t, 51, func(t *testing.T, w *writer, s source) {
		for _, n := range s.made(w) {
			root := place(n)
			for _, c := range []struct {
				what string
				got  []int
				want string
				some *atomic.Int64
			}{
				{"P15.1: Shared", flow.Shared(s.Result, n, s.path), called(w.all, func(v *variable) bool { return w.isShared(v, root) }), &shared},
				{"P15.4: Assigned", flow.Assigned(s.Result, s.path, n), called(w.all, within(w.stores, root)), &stored},
				{"P15.4: Used", flow.Used(s.Result, s.path, n), called(w.all, within(w.uses, root)), &none},
			} {
				if s.sortedNames(c.got) != c.want || !rising(c.got) {
					t.Fatalf("%s in %s is %s, want %s, in\n%s", c.what, s.said(n), s.names(c.got), c.want, s.text)
				}
				count(c.want != "", c.some, &none)
			}
			if got := flow.Leaves(n); got != w.leavesBy(root) {
				t.Fatalf("P15.5: Leaves of %s is %v in\n%s", s.said(n), got, s.text)
			}
			recovers := slices.ContainsFunc(w.recovers, func(r span) bool { return w.outside(r, root) })
			if got := flow.Recovers(s.Result, s.path, n); got != recovers {
				t.Fatalf("P15.5: Recovers of %s is %v in\n%s", s.said(n), got, s.text)
			}
			count(w.leavesBy(root), &leaving, &none)
			count(recovers, &recovering, &none)
		}
	})
	if min(shared.Load(), stored.Load(), leaving.Load(), recovering.Load()) < 3*tries {
		t.Errorf("%d had shared variables, %d stored ones, %d were left, %d recovered: that is not much of a test", shared.Load(), stored.Load(), leaving.Load(), recovering.Load())
	}
}
