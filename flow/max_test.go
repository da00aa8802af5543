package flow

import (
	"math"
	"slices"
	"testing"

	"skiarea/api"
)

// question asks for the greatest flow from s to t, and the edges of the cut.
type question struct {
	s, t, max int
	cut       []int
}

// ask compares Max, Find and Cut with what is wanted.
func ask(t *testing.T, l []api.Edge, q question) {
	t.Helper()
	if n := Max(l, q.s, q.t); n != q.max {
		t.Errorf("%v from %v to %v: Max is %v, want %v", l, q.s, q.t, n, q.max)
	}
	f := Find(l, q.s, q.t)
	if !isFlow(l, f, q.s, q.t) || net(l, f, q.s) != q.max {
		t.Errorf("%v from %v to %v: Find is %v, want a flow of %v", l, q.s, q.t, f, q.max)
	}
	if q.s == q.t && slices.ContainsFunc(f, func(n int) bool { return n != 0 }) {
		t.Errorf("%v from %v to %v: Find is %v, want zeros", l, q.s, q.t, f)
	}
	if out := Cut(l, q.s, q.t); !slices.Equal(out, q.cut) {
		t.Errorf("%v from %v to %v: Cut is %v, want %v", l, q.s, q.t, out, q.cut)
	}
}

// P6.2 to P6.4
func TestGreatestFlowExamples(t *testing.T) {
	cross := edges(1, 2, million, 1, 3, million, 2, 3, 1, 2, 4, million, 3, 4, million)
	for _, c := range []struct {
		l   []api.Edge
		all []question
	}{
		{example(), []question{{1, 4, 5, []int{0, 1}}, {4, 1, 0, nil}, {1, 9, 0, nil}, {9, 1, 0, nil}, {9, 8, 0, nil}, {1, 1, 0, nil}, {9, 9, 0, nil}, {1, 3, 4, []int{1, 2}}, {2, 4, 3, []int{2, 3}}, {1, 2, 3, []int{0}}, {3, 4, 5, []int{4}}, {2, 3, 2, []int{2}}, {3, 2, 0, nil}, {-1, 4, 0, nil}, {1, math.MinInt, 0, nil}, {math.MaxInt, math.MinInt, 0, nil}, {math.MinInt, math.MinInt, 0, nil}}},
		{nil, []question{{1, 2, 0, nil}, {1, 1, 0, nil}, {0, 9999, 0, nil}, {-7, 10000, 0, nil}}}, {[]api.Edge{}, []question{{0, 0, 0, nil}, {0, 1, 0, nil}}},
		{edges(1, 2, 7), []question{{1, 2, 7, []int{0}}, {2, 1, 0, nil}, {1, 3, 0, nil}, {3, 2, 0, nil}, {1, 1, 0, nil}, {2, 2, 0, nil}}},
		{edges(0, 9999, million), []question{{0, 9999, million, []int{0}}, {9999, 0, 0, nil}, {0, 1 << 40, 0, nil}, {0, 0, 0, nil}}}, {edges(9999, 0, million), []question{{9999, 0, million, []int{0}}, {0, 9999, 0, nil}}},
		// Capacities 0: the least minimal set does not go beyond them.
		{edges(1, 2, 0), []question{{1, 2, 0, []int{0}}, {2, 1, 0, nil}, {1, 3, 0, []int{0}}, {3, 2, 0, nil}, {1, 1, 0, nil}}}, {edges(1, 2, 0, 2, 3, 0), []question{{1, 3, 0, []int{0}}, {2, 3, 0, []int{1}}, {2, 1, 0, []int{1}}}},
		{edges(1, 2, 4, 2, 3, 0, 2, 4, 0, 1, 4, 0), []question{{1, 3, 0, []int{1, 2, 3}}, {1, 4, 0, []int{1, 2, 3}}, {1, 2, 4, []int{0, 3}}, {1, 5, 0, []int{1, 2, 3}}, {2, 4, 0, []int{1, 2}}}},
		// Edges from a node to itself never lead out of a set.
		{edges(7, 7, 9), []question{{7, 7, 0, nil}, {7, 8, 0, nil}, {8, 7, 0, nil}}}, {edges(1, 1, million, 1, 2, 3, 2, 2, 0, 2, 3, 4, 3, 3, 5), []question{{1, 3, 3, []int{1}}, {2, 3, 4, []int{3}}, {3, 1, 0, nil}, {2, 2, 0, nil}}},
		// Several edges between the same two nodes, in both directions.
		{edges(1, 2, 4, 1, 2, 6, 2, 1, 3), []question{{1, 2, 10, []int{0, 1}}, {2, 1, 3, []int{2}}}}, {edges(1, 2, 0, 1, 2, 4, 2, 1, 9, 1, 2, 0), []question{{1, 2, 4, []int{0, 1, 3}}, {2, 1, 9, []int{2}}}}, {edges(1, 2, 2, 2, 3, 1, 1, 2, 2, 2, 3, 1, 2, 3, 1), []question{{1, 3, 3, []int{1, 3, 4}}, {1, 2, 4, []int{0, 2}}}},
		// Loops.
		{edges(1, 2, 5, 2, 3, 5, 3, 1, 5), []question{{1, 3, 5, []int{0}}, {3, 2, 5, []int{2}}, {1, 4, 0, nil}}}, {edges(2, 3, 9, 3, 2, 9, 1, 2, 4, 3, 4, 3), []question{{1, 4, 3, []int{3}}, {1, 3, 4, []int{2}}, {2, 3, 9, []int{0}}, {3, 2, 9, []int{1}}, {4, 1, 0, nil}}},
	} {
		for _, q := range c.all {
			ask(t, c.l, q)
		}
	}
	for _, q := range []question{{1, 4, 2 * million, []int{0, 1}}, {1, 3, million + 1, []int{1, 2}}, {2, 4, million + 1, []int{2, 3}}, {4, 1, 0, nil}} {
		ask(t, cross, q)
	}
}

// along is the edges of a path, as triples for edges.
func along(capacity int, nodes ...int) []int {
	var triples []int
	for i := range nodes[1:] {
		triples = append(triples, nodes[i], nodes[i+1], capacity)
	}
	return triples
}

// P6.2 and P6.3: the shortest path leads over an edge by which less has to flow in the end.
func TestFlowsThatAreTakenBack(t *testing.T) {
	// After 1, 2, 3, 4, nothing can flow from 1 by 5, nor to 4 by 8, but against the edge from 2 to 3.
	l := edges(slices.Concat(along(1, 1, 2, 3, 4), along(1, 1, 5, 6, 3), along(1, 2, 7, 8, 4))...)
	ask(t, l, question{1, 4, 2, []int{0, 3}})
	if f := Find(l, 1, 4); !slices.Equal(f, []int{1, 0, 1, 1, 1, 1, 1, 1, 1}) {
		t.Error(f)
	}
	// The same, with 2 of 3 that are taken back.
	l = edges(slices.Concat(along(3, 1, 2, 3, 4), along(2, 1, 5, 6, 3), along(2, 2, 7, 8, 4))...)
	ask(t, l, question{1, 4, 5, []int{0, 3}})
	if f := Find(l, 1, 4); !slices.Equal(f, []int{3, 1, 3, 2, 2, 2, 2, 2, 2}) {
		t.Error(f)
	}
	// What takes back from 2 to 3 flows from 12 to 13, and is taken back there.
	l = edges(slices.Concat(along(1, 1, 2, 3, 4), along(1, 1, 5, 6, 3), along(1, 2, 11, 12, 13, 14, 4), along(1, 1, 21, 22, 23, 24, 25, 26, 27, 13), along(1, 12, 31, 32, 33, 4))...)
	ask(t, l, question{1, 4, 3, []int{0, 3, 11}})
	if f := Find(l, 1, 4); f[1] != 0 || f[8] != 0 {
		t.Error(f)
	}
}

// P6.2 to P6.4: the greatest numbers of edges, the greatest capacities.
func TestGreatestFlowOfManyEdges(t *testing.T) {
	capacities := repeated(million, api.MaxEdges)
	l := chain(capacities...)
	ask(t, l, question{0, 200, million, []int{0}})
	ask(t, l, question{150, 151, million, []int{150}})
	ask(t, l, question{200, 0, 0, nil})
	ask(t, l, question{5, 5, 0, nil})
	for _, least := range []int{0, 1, 99, 198, 199} {
		l[least].Cost = 999999
		ask(t, l, question{0, 200, 999999, []int{least}})
		l[least].Cost = 0
		ask(t, l, question{0, 200, 0, []int{least}})
		l[least].Cost = million
	}
	l[70].Cost, l[130].Cost = 12, 12
	ask(t, l, question{0, 200, 12, []int{70}})
	ask(t, reversed(l), question{200, 0, 12, []int{130}})
	wide := slices.Clone(l)
	for i := range wide {
		wide[i].From, wide[i].To, wide[i].Cost = 3, 4, million
	}
	ask(t, wide, question{3, 4, 200 * million, upTo(200)})
	ask(t, wide, question{4, 3, 0, nil})
	// 100 paths of two edges: from 0 by the nodes 1 to 100 to 9999, where the second edge is the narrow one of every other path.
	var triples, cut []int
	for n := range 100 {
		triples = append(triples, n+1, 9999, million-n%2, 0, n+1, million)
		cut = append(cut, 2*n+1-n%2)
	}
	fan := edges(triples...)
	ask(t, fan, question{0, 9999, 100*million - 50, cut})
	ask(t, fan, question{1, 9999, million, []int{0}})
}

// P6.2 to P6.4, by a search through all flows and all separating sets, also for numbers that are no nodes.
func TestGreatestFlowOfSmallGraphs(t *testing.T) {
	smallGraphs(func(l []api.Edge) {
		for n := range 16 {
			checkAll(t, l, n/4, n%4)
		}
	})
	r := source()
	for range 1200 {
		l := randomGraph(r, 3+r.IntN(5), 2+r.IntN(4), 2+r.IntN(2))
		for _, s := range nodesWith(l, -1) {
			checkAll(t, l, s, nodesWith(l)[r.IntN(len(nodesWith(l)))])
		}
	}
}

// checkAll compares Max, Find and Cut with all flows and all separating sets. (P6.5)
func checkAll(t *testing.T, l []api.Edge, s, to int) {
	t.Helper()
	greatest := 0
	eachList(l, 0, 0, func(f []int) {
		if isFlow(l, f, s, to) {
			greatest = max(greatest, net(l, f, s))
		}
	})
	q := question{s, to, greatest, nil}
	if s != to {
		inside, least := leastMinimal(l, s, to)
		if q.cut = leadingOut(l, inside); least != greatest {
			t.Fatalf("%v from %v to %v: the greatest flow is %v, the least set %v", l, s, to, greatest, least)
		}
	}
	if ask(t, l, q); t.Failed() {
		t.FailNow()
	}
}

// P6.6: more capacity of one edge.
func TestMoreCapacity(t *testing.T) {
	r := source()
	more := 0
	anyGraphs(r, 1500, func(l []api.Edge, s, to int) {
		if len(l) == 0 {
			return
		}
		before := Max(l, s, to)
		i := r.IntN(len(l))
		if out := Cut(l, s, to); len(out) > 0 && r.IntN(2) == 0 {
			i = out[r.IntN(len(out))]
		}
		d := r.IntN(million + 1 - l[i].Cost)
		wider := slices.Clone(l)
		wider[i].Cost += d
		if after := Max(wider, s, to); after < before || after > before+d {
			t.Fatalf("%v from %v to %v: %v, and with %v more at %v: %v", l, s, to, before, d, i, after)
		} else if after > before {
			more++
		}
	})
	if more < 100 {
		t.Error("only", more, "flows increase")
	}
}

// P6.6: reversed edges.
func TestReversedEdges(t *testing.T) {
	positive := 0
	anyGraphs(source(), 1500, func(l []api.Edge, s, to int) {
		there, back := Max(l, s, to), Max(reversed(l), to, s)
		if there != back {
			t.Fatalf("%v from %v to %v: %v, and reversed %v", l, s, to, there, back)
		}
		if there > 0 {
			positive++
		}
	})
	if positive < 700 {
		t.Error("only", positive, "flows are positive")
	}
}
