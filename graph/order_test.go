package graph

import (
	"slices"
	"testing"

	"skiarea/api"
)

// leadsOn reports whether each edge of l leads from an earlier node of order to a later one.
func leadsOn(l []api.Edge, order []int) bool {
	return !slices.ContainsFunc(l, func(e api.Edge) bool { return slices.Index(order, e.From) >= slices.Index(order, e.To) })
}

// firstOrder tries all orders that begin with placed and go on with the nodes of rest, which increase, from the lexicographically least one on.
func firstOrder(l []api.Edge, placed, rest []int) ([]int, bool) {
	if len(rest) == 0 {
		return placed, leadsOn(l, placed)
	}
	for i, n := range rest {
		if order, ok := firstOrder(l, append(slices.Clip(placed), n), slices.Concat(rest[:i], rest[i+1:])); ok {
			return order, true
		}
	}
	return nil, false
}

// hasLoop reports whether there is an edge whose From is in Reach of its To.
func hasLoop(l []api.Edge) bool {
	return slices.ContainsFunc(l, func(e api.Edge) bool { return slices.Contains(reachByWalks(l, []int{e.To}), e.From) })
}

// checkSmallOrder compares Order with the search through all orders.
func checkSmallOrder(t *testing.T, l []api.Edge) {
	t.Helper()
	want, ok := firstOrder(l, nil, nodesOf(l))
	e := api.OK
	if !ok {
		want, e = nil, api.ErrLoop
	}
	if got, code := Order(l); !slices.Equal(got, want) || code != e {
		t.Fatalf("%v: %v and %v, want %v and %v", l, got, code, want, e)
	}
}

// leastFree returns the least node of rest to which no edge of l leads from another one of rest or from itself.
func leastFree(l []api.Edge, rest []int) int {
	for _, n := range rest {
		if !slices.ContainsFunc(l, func(e api.Edge) bool { return e.To == n && slices.Contains(rest, e.From) }) {
			return n
		}
	}
	return -1
}

// orderByChoice chooses the least node that is possible at each position.
func orderByChoice(l []api.Edge) []int {
	var order []int
	rest := nodesOf(l)
	for len(rest) > 0 {
		n := leastFree(l, rest)
		order = append(order, n)
		rest = slices.DeleteFunc(rest, func(m int) bool { return m == n })
	}
	return order
}

// P5.3
func TestOrderExamples(t *testing.T) {
	for i, c := range []struct {
		l    []api.Edge
		want []int
		e    api.Errno
	}{
		{example(), []int{5, 1, 2, 3, 4}, api.OK}, {append(example(), edge(4, 2, 0)), nil, api.ErrLoop}, {append(example(), edge(4, 4, 0)), nil, api.ErrLoop}, {append(example(), edge(4, 5, 1)), nil, api.ErrLoop}, {append(example(), edge(5, 4, 1)), []int{5, 1, 2, 3, 4}, api.OK},
		{nil, nil, api.OK}, {[]api.Edge{}, nil, api.OK}, {[]api.Edge{edge(0, 0, 0)}, nil, api.ErrLoop}, {[]api.Edge{edge(7, 7, 3)}, nil, api.ErrLoop}, {[]api.Edge{edge(0, 9999, 0)}, []int{0, 9999}, api.OK}, {[]api.Edge{edge(9999, 0, 0)}, []int{9999, 0}, api.OK},
		{numbered(edge(1, 2, 0), edge(1, 2, 0), edge(1, 2, 5)), []int{1, 2}, api.OK}, {numbered(edge(1, 2, 0), edge(2, 1, 0)), nil, api.ErrLoop}, {numbered(edge(2, 1, 0), edge(3, 2, 0), edge(1, 3, 0)), nil, api.ErrLoop}, {numbered(edge(1, 2, 0), edge(2, 3, 0), edge(3, 2, 0), edge(0, 4, 0)), nil, api.ErrLoop},
		// A node that becomes possible goes before greater ones that have been possible for longer.
		{numbered(edge(2, 1, 0), edge(3, 4, 0)), []int{2, 1, 3, 4}, api.OK}, {numbered(edge(1, 9, 0), edge(2, 3, 0), edge(4, 5, 0)), []int{1, 2, 3, 4, 5, 9}, api.OK}, {numbered(edge(9, 1, 0), edge(2, 7, 0), edge(9, 7, 0)), []int{2, 9, 1, 7}, api.OK},
		// The last one of several edges decides.
		{numbered(edge(8, 1, 0), edge(6, 1, 0), edge(7, 1, 0), edge(6, 2, 0)), []int{6, 2, 7, 8, 1}, api.OK}, {numbered(edge(5, 3, 0), edge(4, 3, 0), edge(3, 1, 0), edge(4, 2, 0), edge(4, 2, 9)), []int{4, 2, 5, 3, 1}, api.OK},
		{numbered(edge(1, 4, 0), edge(4, 2, 0), edge(1, 3, 0), edge(3, 2, 0), edge(2, 0, 0)), []int{1, 3, 4, 2, 0}, api.OK},
	} {
		if got, e := Order(c.l); !slices.Equal(got, c.want) || e != c.e {
			t.Errorf("%v: %v and %v, want %v and %v", i, got, e, c.want, c.e)
		}
	}
}

// P5.3: the greatest numbers of edges and of nodes.
func TestOrderOfManyNodes(t *testing.T) {
	all := upTo(api.MaxEdges + 1)
	if got, e := Order(chain(source().Perm(api.MaxEdges))); !slices.Equal(got, all) || e != api.OK {
		t.Error("a chain:", got, e)
	}
	slices.Reverse(all)
	if got, e := Order(turned(chain(source().Perm(api.MaxEdges)))); !slices.Equal(got, all) || e != api.OK {
		t.Error("a turned chain:", got, e)
	}
	var pairs []api.Edge
	var want []int
	for _, n := range source().Perm(api.MaxEdges) {
		pairs = append(pairs, edge(2*n+1, 2*n, 0))
	}
	for n := range api.MaxEdges {
		want = append(want, 2*n+1, 2*n)
	}
	if got, e := Order(pairs); !slices.Equal(got, want) || e != api.OK {
		t.Error("pairs:", got, e)
	}
	pairs[77] = edge(pairs[12].To, pairs[12].From, 1)
	if got, e := Order(pairs); len(got) > 0 || e != api.ErrLoop {
		t.Error("pairs with a loop:", got, e)
	}
}

// P5.3 and P5.7
func TestOrderOfSmallGraphs(t *testing.T) {
	smallGraphs(func(l []api.Edge) {
		checkSmallOrder(t, l)
		if _, e := Order(l); (e == api.ErrLoop) != hasLoop(l) || e != api.OK && e != api.ErrLoop {
			t.Fatalf("%v: %v", l, e)
		}
	})
	r := source()
	for i := range 6000 {
		l := randomGraph(r, r.IntN(8), 1+r.IntN(6), 3)
		if i%2 == 0 {
			l = slices.DeleteFunc(upward(l), func(e api.Edge) bool { return e.From == e.To })
		}
		if i%4 == 0 {
			l = turned(l)
		}
		checkSmallOrder(t, l)
	}
}

// shuffled gives the nodes of l other numbers.
func shuffled(l []api.Edge, names []int) []api.Edge {
	var out []api.Edge
	for _, e := range l {
		out = append(out, api.Edge{ID: e.ID, From: names[e.From], To: names[e.To], Cost: e.Cost})
	}
	return out
}

// P5.3 and P5.7
func TestOrderIsExact(t *testing.T) {
	r := source()
	ordered := 0
	for i := range 1200 {
		l := shuffled(upward(randomGraph(r, r.IntN(api.MaxEdges+1), 1+r.IntN(300), 5)), r.Perm(api.MaxID+1))
		if i%8 > 0 {
			l = slices.DeleteFunc(l, func(e api.Edge) bool { return e.From == e.To })
		}
		if i%8 == 1 && len(l) > 0 {
			last := len(l) - 1
			l[last].From, l[last].To = l[last].To, l[0].From
		}
		var want []int
		e := api.ErrLoop
		if !hasLoop(l) {
			want, e = orderByChoice(l), api.OK
			ordered++
		}
		if got, code := Order(l); !slices.Equal(got, want) || code != e {
			t.Fatalf("%v: %v and %v, want %v and %v", l, got, code, want, e)
		}
		watched(t, l, nil, markNumber, func(l []api.Edge, _ []int) []int {
			order, _ := Order(l)
			return order
		})
	}
	if ordered < 600 || ordered > 1190 {
		t.Error("too many loops, or too few: orders", ordered)
	}
}
