package graph

import (
	"cmp"
	"math"
	"slices"
	"testing"

	"skiarea/api"
)

// route is a path: its cost, and the positions of its edges.
type route struct {
	cost      int
	positions []int
}

// compareRoutes is the order of the chapter, by the whole lists of positions.
func compareRoutes(a, b route) int {
	return cmp.Or(cmp.Compare(a.cost, b.cost), cmp.Compare(len(a.positions), len(b.positions)), slices.Compare(a.positions, b.positions))
}

// longerBy returns the route with one more edge.
func longerBy(r route, l []api.Edge, i int) route {
	return route{r.cost + l[i].Cost, append(slices.Clip(r.positions), i)}
}

// allRoutes calls f with each path of up to edges edges that goes on from the node at, behind r, also with those that pass nodes or edges several times.
func allRoutes(l []api.Edge, r route, at, edges int, f func(r route, end int)) {
	f(r, at)
	if edges == 0 {
		return
	}
	for i, e := range l {
		if e.From == at {
			allRoutes(l, longerBy(r, l, i), e.To, edges-1, f)
		}
	}
}

// bestOfAll returns the best one of all paths of up to edges edges from the node from to each node.
func bestOfAll(l []api.Edge, from, edges int) map[int]route {
	best := map[int]route{}
	allRoutes(l, route{}, from, edges, func(r route, end int) {
		if old, ok := best[end]; !ok || compareRoutes(r, old) < 0 {
			best[end] = r
		}
	})
	return best
}

// bestByEdges prolongs the best paths by each edge, until none becomes better. It keeps all positions, and begins at from, where Shortest begins at to.
func bestByEdges(l []api.Edge, from int) map[int]route {
	best := map[int]route{from: {}}
	for better := true; better; {
		better = false
		for i, e := range l {
			r, ok := best[e.From]
			if !ok {
				continue
			}
			longer := longerBy(r, l, i)
			if old, ok := best[e.To]; !ok || compareRoutes(longer, old) < 0 {
				best[e.To], better = longer, true
			}
		}
	}
	return best
}

func idsOf(l []api.Edge, positions []int) []int {
	var ids []int
	for _, i := range positions {
		ids = append(ids, l[i].ID)
	}
	return ids
}

// checkShortest compares Shortest from from to each of the ends with the best routes.
func checkShortest(t *testing.T, l []api.Edge, from int, ends []int, best map[int]route) {
	t.Helper()
	for _, to := range ends {
		want, ok := best[to]
		ids := idsOf(l, want.positions)
		if path, cost, found := Shortest(l, from, to); !slices.Equal(path, ids) || cost != want.cost || found != ok {
			t.Fatalf("%v from %v to %v: %v, %v, %v, want %v, %v, %v", l, from, to, path, cost, found, ids, want.cost, ok)
		}
	}
}

// P5.4
func TestShortestExamples(t *testing.T) {
	type question struct {
		from, to int
		path     []int
		cost     int
		ok       bool
	}
	for i, c := range []struct {
		l   []api.Edge
		all []question
	}{
		{example(), []question{{1, 4, []int{13, 14}, 11, true}, {4, 1, nil, 0, false}, {5, 4, []int{15, 13, 14}, 11, true}, {5, 1, []int{15}, 0, true}, {1, 3, []int{13}, 10, true}, {2, 4, []int{12, 14}, 6, true}, {3, 3, nil, 0, true}, {3, 5, nil, 0, false}}},
		{example(), []question{{7, 7, nil, 0, true}, {-1, -1, nil, 0, true}, {math.MinInt, math.MinInt, nil, 0, true}, {math.MaxInt, math.MaxInt, nil, 0, true}, {1, 7, nil, 0, false}, {7, 1, nil, 0, false}, {-1, 1, nil, 0, false}, {1, math.MaxInt, nil, 0, false}, {7, 8, nil, 0, false}, {0, 1, nil, 0, false}, {1, 0, nil, 0, false}}},
		{nil, []question{{0, 0, nil, 0, true}, {0, 1, nil, 0, false}, {-5, -5, nil, 0, true}, {-5, 5, nil, 0, false}}}, {[]api.Edge{}, []question{{3, 3, nil, 0, true}, {3, 0, nil, 0, false}}},
		// Without 13, and with an earlier edge that costs as much.
		{Without(example(), []int{13}), []question{{1, 4, []int{11, 12, 14}, 11, true}, {1, 3, []int{11, 12}, 10, true}}}, {append([]api.Edge{{ID: 0, From: 1, To: 3, Cost: 10}}, example()...), []question{{1, 4, []int{0, 14}, 11, true}}}, {append(example(), api.Edge{ID: -9, From: 1, To: 3, Cost: 9}), []question{{1, 4, []int{-9, 14}, 10, true}}},
		// Several edges between two nodes: the cheapest one, then the first one, whatever its ID.
		{[]api.Edge{{ID: 9, From: 1, To: 2, Cost: 3}, {ID: 8, From: 1, To: 2, Cost: 2}, {ID: 1, From: 1, To: 2, Cost: 2}, {ID: 2, From: 2, To: 1, Cost: 0}}, []question{{1, 2, []int{8}, 2, true}, {2, 1, []int{2}, 0, true}, {1, 1, nil, 0, true}, {2, 2, nil, 0, true}}},
		{[]api.Edge{{ID: math.MaxInt, From: 0, To: 9999, Cost: 1000000}, {ID: math.MinInt, From: 9999, To: 0, Cost: 1000000}}, []question{{0, 9999, []int{math.MaxInt}, 1000000, true}, {9999, 0, []int{math.MinInt}, 1000000, true}, {0, 0, nil, 0, true}}},
		// Loops of cost 0 are not passed.
		{numbered(edge(1, 1, 0), edge(1, 2, 0), edge(2, 1, 0), edge(2, 2, 0), edge(2, 3, 0), edge(3, 1, 0)), []question{{1, 3, []int{33, 12}, 0, true}, {1, 1, nil, 0, true}, {2, 1, []int{26}, 0, true}, {3, 2, []int{5, 33}, 0, true}}},
		{[]api.Edge{edge(5, 5, 0)}, []question{{5, 5, nil, 0, true}, {5, 6, nil, 0, false}, {6, 5, nil, 0, false}, {6, 6, nil, 0, true}}}, {[]api.Edge{edge(5, 5, 4)}, []question{{5, 5, nil, 0, true}}},
		// Paths with two edges each: the position of the first one decides before that of the second one.
		{numbered(edge(3, 4, 1), edge(1, 2, 1), edge(1, 3, 1), edge(2, 4, 1)), []question{{1, 4, []int{33, 19}, 2, true}}}, {numbered(edge(2, 4, 1), edge(1, 3, 1), edge(1, 2, 1), edge(3, 4, 1)), []question{{1, 4, []int{33, 19}, 2, true}}}, {numbered(edge(3, 4, 2), edge(1, 3, 0), edge(1, 2, 1), edge(2, 4, 1), edge(1, 2, 1), edge(2, 4, 1)), []question{{1, 4, []int{33, 40}, 2, true}}},
		{numbered(edge(2, 4, 1), edge(1, 2, 1), edge(1, 2, 1), edge(2, 4, 1)), []question{{1, 4, []int{33, 40}, 2, true}}},
		// The cost decides before the number of edges, and this before the positions.
		{numbered(edge(1, 3, 3), edge(1, 2, 1), edge(2, 3, 1)), []question{{1, 3, []int{33, 26}, 2, true}}}, {numbered(edge(1, 2, 0), edge(2, 3, 0), edge(3, 4, 0), edge(1, 3, 0), edge(1, 4, 0)), []question{{1, 4, []int{12}, 0, true}, {1, 3, []int{19}, 0, true}, {2, 4, []int{33, 26}, 0, true}}},
		{numbered(edge(1, 2, 0), edge(2, 3, 0), edge(3, 6, 2), edge(1, 4, 1), edge(4, 6, 1)), []question{{1, 6, []int{19, 12}, 2, true}}},
	} {
		for _, q := range c.all {
			if path, cost, ok := Shortest(c.l, q.from, q.to); !slices.Equal(path, q.path) || cost != q.cost || ok != q.ok {
				t.Errorf("%v from %v to %v: %v, %v, %v, want %v, %v, %v", i, q.from, q.to, path, cost, ok, q.path, q.cost, q.ok)
			}
		}
	}
}

// P5.4: paths of 200 edges.
func TestShortestOfLongPaths(t *testing.T) {
	l := chain(source().Perm(api.MaxEdges))
	for i := range l {
		l[i].Cost = 1000000
	}
	path, cost, ok := Shortest(l, 0, api.MaxEdges)
	if len(path) != api.MaxEdges || cost != 200000000 || !ok {
		t.Error(len(path), "edges", cost, ok)
	}
	for n, id := range path {
		if l[id].From != n {
			t.Fatal("the edge", n, "begins at", l[id].From)
		}
	}
	if path, cost, ok := Shortest(l, api.MaxEdges, 0); len(path) > 0 || cost != 0 || ok {
		t.Error("back:", path, cost, ok)
	}
	// A shorter way that costs as much replaces the half of it; one that costs more does not.
	for _, c := range []struct{ cost, edges int }{{50000000, 151}, {49999999, 151}, {50000001, 200}} {
		short := append(slices.Clone(l), api.Edge{ID: -1, From: 100, To: 150, Cost: c.cost})
		if path, _, _ := Shortest(short, 0, api.MaxEdges); len(path) != c.edges {
			t.Error("a way of", c.cost, "makes", len(path), "edges")
		}
	}
}

// P5.4: graphs with many paths that tie.
func TestShortestAmongManyTies(t *testing.T) {
	var l []api.Edge
	var first []int
	for n := range 50 {
		first = append(first, 3*n)
		l = append(l, api.Edge{ID: 3 * n, From: n, To: n + 1}, api.Edge{ID: 3*n + 1, From: n, To: n + 1}, api.Edge{ID: 3*n + 2, From: n + 1, To: n})
	}
	if path, cost, ok := Shortest(l, 0, 50); !slices.Equal(path, first) || cost != 0 || !ok {
		t.Error(path, cost, ok)
	}
	slices.Reverse(l)
	for n := range first {
		first[n]++
	}
	if path, cost, ok := Shortest(l, 0, 50); !slices.Equal(path, first) || cost != 0 || !ok {
		t.Error("turned round:", path, cost, ok)
	}
}

// P5.4
func TestShortestOfSmallGraphs(t *testing.T) {
	smallGraphs(func(l []api.Edge) {
		for from := range 5 {
			checkShortest(t, l, from, upTo(5), bestOfAll(l, from, len(l)))
		}
	})
	r := source()
	for range 8000 {
		l := randomGraph(r, r.IntN(9), 1+r.IntN(5), 1+r.IntN(4))
		nodes := nodesOf(l)
		for _, from := range nodes {
			checkShortest(t, l, from, nodes, bestOfAll(l, from, len(nodes)))
		}
	}
}

// P5.4 and P5.6
func TestShortestIsExact(t *testing.T) {
	r := source()
	anyGraphs(r, 1600, func(l []api.Edge) {
		ends := append(someNumbers(r, l), someNumbers(r, l)...)
		for _, from := range someNumbers(r, l) {
			checkShortest(t, l, from, ends, bestByEdges(l, from))
			reached := Reach(l, []int{from})
			for _, to := range ends {
				if _, _, ok := Shortest(l, from, to); ok != slices.Contains(reached, to) {
					t.Fatalf("%v from %v to %v: %v, and Reach is %v", l, from, to, ok, reached)
				}
			}
			for _, to := range ends {
				watched(t, l, nil, markNumber, func(l []api.Edge, _ []int) []int {
					path, _, _ := Shortest(l, from, to)
					return path
				})
			}
		}
	})
}

// P5.6: what Shortest returns is a path with this cost, and no edge makes a cheaper one.
func TestShortestIsAPath(t *testing.T) {
	r := source()
	anyGraphs(r, 400, func(l []api.Edge) {
		nodes := nodesOf(l)
		for _, from := range nodes[:min(len(nodes), 4)] {
			costs := map[int]int{}
			for _, to := range nodes {
				path, cost, ok := Shortest(l, from, to)
				if !ok {
					continue
				}
				costs[to] = cost
				at := from
				for _, id := range path {
					e := l[slices.IndexFunc(l, func(e api.Edge) bool { return e.ID == id })]
					if e.From != at {
						t.Fatalf("%v from %v to %v: %v is no path", l, from, to, path)
					}
					at, cost = e.To, cost-e.Cost
				}
				if at != to || cost != 0 {
					t.Fatalf("%v from %v to %v: %v ends at %v, and costs %v less", l, from, to, path, at, cost)
				}
			}
			for _, e := range l {
				cost, ok := costs[e.From]
				if far, known := costs[e.To]; ok && (!known || far > cost+e.Cost) {
					t.Fatalf("%v from %v to %v: %v, %v, but %v to %v", l, from, e.To, far, known, cost, e.From)
				}
			}
		}
	})
}

// P5.8
func TestShortestWithoutEdges(t *testing.T) {
	r := source()
	fewer := 0
	anyGraphs(r, 3000, func(l []api.Edge) {
		if len(l) == 0 {
			return
		}
		var ids []int
		for range 1 + r.IntN(5) {
			ids = append(ids, l[r.IntN(len(l))].ID)
		}
		from, to := l[r.IntN(len(l))].From, l[r.IntN(len(l))].To
		_, cost, ok := Shortest(l, from, to)
		path, more, still := Shortest(Without(l, ids), from, to)
		if still && (!ok || more < cost) || slices.ContainsFunc(path, func(id int) bool { return slices.Contains(ids, id) }) {
			t.Fatalf("%v from %v to %v without %v: %v, %v, but with them %v, %v", l, from, to, ids, path, more, cost, ok)
		}
		if ok && !still {
			fewer++
		}
	})
	if fewer < 50 {
		t.Error("only", fewer, "paths are lost")
	}
}

// No function panics or goes on for ever, whatever the edges are, also those for which the chapter defines nothing.
func TestEdgesThatAreNotRight(t *testing.T) {
	r := source()
	numbers := []int{math.MinInt, math.MaxInt, -1000001, -1, 0, 1, 2, 10000, 1 << 62, -1 << 62}
	pick := func() int { return numbers[r.IntN(len(numbers))] }
	for range 5000 {
		l := make([]api.Edge, r.IntN(12))
		for i := range l {
			l[i] = api.Edge{ID: pick(), From: pick(), To: pick(), Cost: pick()}
		}
		list := []int{pick(), pick()}
		checkReach(t, l, list)
		if _, e := Order(l); (e == api.ErrLoop) != hasLoop(l) {
			t.Fatalf("%v: %v", l, e)
		}
		if _, _, ok := Shortest(l, list[0], list[1]); ok != slices.Contains(reachByWalks(l, list[:1]), list[1]) {
			t.Fatalf("%v from %v to %v: %v", l, list[0], list[1], ok)
		}
		for _, e := range Without(l, list) {
			if slices.Contains(list, e.ID) {
				t.Fatalf("%v without %v has %v", l, list, e)
			}
		}
	}
	long := make([]api.Edge, 5000)
	for i := range long {
		long[i] = edge(i, i+1, 1)
	}
	if path, cost, ok := Shortest(long, 0, 5000); len(path) != 5000 || cost != 5000 || !ok {
		t.Error("a long chain:", len(path), cost, ok)
	}
}
