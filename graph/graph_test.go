package graph

import (
	"math"
	"math/rand/v2"
	"slices"
	"testing"

	"skiarea/api"
)

func source() *rand.Rand { return rand.New(rand.NewPCG(5, 8)) }

// edge is an edge from a to b for cost. Its ID is set by numbered.
func edge(a, b, cost int) api.Edge { return api.Edge{From: a, To: b, Cost: cost} }

// numbered gives the edges decreasing IDs, so that neither an ID nor the order of the IDs is a position or the order of the positions.
func numbered(l ...api.Edge) []api.Edge {
	for i := range l {
		l[i].ID = 40 - 7*i
	}
	return l
}

// example is the graph of the chapter's examples.
func example() []api.Edge {
	return []api.Edge{{ID: 11, From: 1, To: 2, Cost: 5}, {ID: 12, From: 2, To: 3, Cost: 5}, {ID: 13, From: 1, To: 3, Cost: 10}, {ID: 14, From: 3, To: 4, Cost: 1}, {ID: 15, From: 5, To: 1, Cost: 0}}
}

// nodesOf returns the nodes of l in increasing order.
func nodesOf(l []api.Edge) []int {
	var nodes []int
	for _, e := range l {
		nodes = append(nodes, e.From, e.To)
	}
	slices.Sort(nodes)
	return slices.Compact(nodes)
}

// turned returns the edges with From and To exchanged.
func turned(l []api.Edge) []api.Edge {
	var out []api.Edge
	for _, e := range l {
		out = append(out, api.Edge{ID: e.ID, From: e.To, To: e.From, Cost: e.Cost})
	}
	return out
}

// smallGraphs calls f with all lists of up to three edges of the costs 0 and 1 between three nodes.
func smallGraphs(f func(l []api.Edge)) {
	grow(nil, 3, f)
}

func grow(l []api.Edge, more int, f func(l []api.Edge)) {
	f(numbered(slices.Clone(l)...))
	if more == 0 {
		return
	}
	for n := range 18 {
		grow(append(slices.Clip(l), edge(n/6+1, n/2%3+1, n%2)), more-1, f)
	}
}

// randomGraph is a list of edges between numbers that follow each other, or that stand far apart. Its IDs are not in order; some of them are negative.
func randomGraph(r *rand.Rand, edges, nodes, costs int) []api.Edge {
	step := 1
	if r.IntN(2) == 0 {
		step = api.MaxID / nodes
	}
	l := make([]api.Edge, edges)
	ids := r.Perm(3 * edges)
	for i := range l {
		l[i] = api.Edge{ID: ids[i] - edges, From: step * r.IntN(nodes), To: step * r.IntN(nodes), Cost: r.IntN(costs)}
	}
	return l
}

// upward exchanges From and To of the edges that lead to a lesser node, so that the only loops are edges from a node to itself.
func upward(l []api.Edge) []api.Edge {
	for i, e := range l {
		l[i].From, l[i].To = min(e.From, e.To), max(e.From, e.To)
	}
	return l
}

// anyGraphs calls f with n random graphs: small ones, those with few loops, and those of up to MaxEdges edges.
func anyGraphs(r *rand.Rand, n int, f func(l []api.Edge)) {
	for i := range n {
		costs := []int{1, 2, 4, 1000001}[r.IntN(4)]
		switch i % 4 {
		case 0:
			f(randomGraph(r, r.IntN(8), 1+r.IntN(5), costs))
		case 1:
			f(upward(randomGraph(r, r.IntN(12), 2+r.IntN(6), costs)))
		case 2:
			f(randomGraph(r, r.IntN(60), 1+r.IntN(60), costs))
		case 3:
			f(randomGraph(r, api.MaxEdges-r.IntN(2), 1+r.IntN(300), costs))
		}
	}
}

// roomy returns a copy of l in which marks stand behind the elements, within its capacity.
func roomy[T any](l []T, mark T) []T {
	whole := append(slices.Clone(l), mark, mark, mark)
	return whole[:len(l)]
}

var markEdge = api.Edge{ID: -77, From: -77, To: -77, Cost: -77}

const markNumber = -77

// watched calls f with copies of l and numbers, writes into all that f returns, and checks that neither the copies nor the room behind them have changed, and that what f returned stays when the copies change.
func watched[T comparable](t *testing.T, l []api.Edge, numbers []int, mark T, f func(l []api.Edge, numbers []int) []T) {
	t.Helper()
	edges, list := roomy(l, markEdge), roomy(numbers, markNumber)
	got := f(edges, list)
	want := slices.Clone(got)
	if again := f(edges, list); !slices.Equal(again, want) {
		t.Fatalf("%v and %v: first %v, then %v", l, numbers, want, again)
	} else if len(again) > 0 {
		again[0] = mark
	}
	if !slices.Equal(got, want) {
		t.Fatalf("%v and %v: two results share memory", l, numbers)
	}
	for i := range edges {
		edges[i] = api.Edge{ID: 1 - l[i].ID, From: l[i].To + 1, To: l[i].From + 2, Cost: l[i].Cost + 1}
	}
	for i := range list {
		list[i] = numbers[i] + 1
	}
	if !slices.Equal(got, want) {
		t.Fatalf("%v and %v: the result changed with an argument", l, numbers)
	}
	copy(edges, l)
	copy(list, numbers)
	for i := range got[:cap(got)] {
		got[:cap(got)][i] = mark
	}
	whole, all := edges[:len(l)+3], list[:len(numbers)+3]
	if !slices.Equal(whole, append(slices.Clone(l), markEdge, markEdge, markEdge)) || !slices.Equal(all, append(slices.Clone(numbers), markNumber, markNumber, markNumber)) {
		t.Fatalf("%v and %v are %v and %v", l, numbers, whole, all)
	}
}

// unchanged calls f with a copy of l, and checks that f changed neither the copy nor the room behind it.
func unchanged(t *testing.T, l []api.Edge, f func(l []api.Edge)) {
	t.Helper()
	edges := roomy(l, markEdge)
	f(edges)
	if whole := edges[:len(l)+3]; !slices.Equal(whole, append(slices.Clone(l), markEdge, markEdge, markEdge)) {
		t.Fatalf("%v is %v", l, whole)
	}
}

// P5.1
func TestRightOfOneEdge(t *testing.T) {
	for _, c := range []struct {
		e    api.Edge
		want api.Errno
	}{
		{api.Edge{}, api.OK}, {api.Edge{ID: 1, From: 9999, To: 9999, Cost: 1000000}, api.OK}, {api.Edge{ID: -1, From: 0, To: 9999}, api.OK}, {api.Edge{ID: math.MinInt, From: 9999}, api.OK}, {api.Edge{ID: math.MaxInt, Cost: 999999}, api.OK},
		{edge(9998, 9998, 1), api.OK}, {edge(7, 7, 0), api.OK}, {api.Edge{ID: 1000000000}, api.OK},
		{edge(-1, 0, 0), api.ErrRange}, {edge(0, -1, 0), api.ErrRange}, {edge(0, 0, -1), api.ErrRange}, {edge(10000, 0, 0), api.ErrRange}, {edge(0, 10000, 0), api.ErrRange}, {edge(0, 0, 1000001), api.ErrRange},
		{edge(-1, -1, -1), api.ErrRange}, {edge(10000, 10000, 1000001), api.ErrRange}, {edge(math.MinInt, 0, 0), api.ErrRange}, {edge(0, math.MinInt, 0), api.ErrRange}, {edge(0, 0, math.MinInt), api.ErrRange},
		{edge(math.MaxInt, 0, 0), api.ErrRange}, {edge(0, math.MaxInt, 0), api.ErrRange}, {edge(0, 0, math.MaxInt), api.ErrRange}, {edge(1<<32, 0, 0), api.ErrRange}, {edge(0, 1<<32, 0), api.ErrRange}, {edge(0, 0, 1<<32), api.ErrRange},
	} {
		if got := Right([]api.Edge{c.e}); got != c.want {
			t.Errorf("%v: %v, want %v", c.e, got, c.want)
		}
		// Behind a right edge, and before one, it is the same.
		other := api.Edge{ID: 5, From: 1, To: 2, Cost: 3}
		if a, b := Right([]api.Edge{other, c.e}), Right([]api.Edge{c.e, other}); a != c.want || b != c.want {
			t.Errorf("%v with another one: %v, %v, want %v", c.e, a, b, c.want)
		}
	}
}

// P5.1: the errors of the first edge come before those of the second one, and ErrRange before ErrTwice.
func TestRightOfSeveralEdges(t *testing.T) {
	good, same, bad, badSame := api.Edge{ID: 3}, api.Edge{ID: 3, From: 1, To: 2, Cost: 3}, api.Edge{ID: 4, Cost: -1}, api.Edge{ID: 3, From: -1}
	for i, c := range []struct {
		l    []api.Edge
		want api.Errno
	}{
		{nil, api.OK}, {[]api.Edge{}, api.OK}, {example(), api.OK},
		{[]api.Edge{good, same}, api.ErrTwice}, {[]api.Edge{good, good}, api.ErrTwice}, {[]api.Edge{good, {ID: 4}, {ID: 5}, same}, api.ErrTwice}, {[]api.Edge{{ID: 4}, good, same, {ID: 5}}, api.ErrTwice},
		{[]api.Edge{good, same, bad}, api.ErrTwice}, {[]api.Edge{good, bad, same}, api.ErrRange}, {[]api.Edge{bad, good, same}, api.ErrRange},
		{[]api.Edge{good, badSame}, api.ErrRange}, {[]api.Edge{badSame, good}, api.ErrRange}, {[]api.Edge{good, badSame, same}, api.ErrRange}, {[]api.Edge{good, same, badSame}, api.ErrTwice},
		{[]api.Edge{{ID: math.MinInt}, {ID: math.MaxInt}, {ID: -1}, {ID: 0}}, api.OK}, {[]api.Edge{{ID: math.MinInt}, {ID: math.MinInt}}, api.ErrTwice}, {[]api.Edge{{ID: math.MaxInt}, {ID: math.MaxInt}}, api.ErrTwice}, {[]api.Edge{{ID: -4}, {ID: 4}, {ID: -4}}, api.ErrTwice},
		{[]api.Edge{{ID: 1}, {ID: 1 + 1<<32}}, api.OK}, {[]api.Edge{{ID: 0, From: 1, To: 2}, {ID: 9, From: 1, To: 2}}, api.OK}, {[]api.Edge{{}, {}}, api.ErrTwice},
	} {
		if got := Right(c.l); got != c.want {
			t.Errorf("%v %v: %v, want %v", i, c.l, got, c.want)
		}
	}
}

// P5.1
func TestRightLength(t *testing.T) {
	many := make([]api.Edge, 250)
	for i := range many {
		many[i] = api.Edge{ID: -i, From: i, To: 9999 - i, Cost: i}
	}
	for n := range len(many) + 1 {
		want := api.OK
		if n > 200 {
			want = api.ErrLong
		}
		if got := Right(many[:n]); got != want {
			t.Error(n, "edges:", got)
		}
	}
	for _, wrong := range []struct{ first, last api.Edge }{{edge(-1, 0, 0), api.Edge{ID: 1}}, {api.Edge{}, edge(0, 0, -1)}, {api.Edge{ID: -5}, api.Edge{ID: -5}}} {
		long := slices.Clone(many)
		long[0], long[200] = wrong.first, wrong.last
		if got := Right(long[:201]); got != api.ErrLong {
			t.Error("201 edges with", wrong, got)
		}
	}
	late := slices.Clone(many[:200])
	if late[199].Cost = 1000001; Right(late) != api.ErrRange {
		t.Error("the last edge is out of range:", Right(late))
	}
	late = slices.Clone(many[:200])
	if late[199].ID = 0; Right(late) != api.ErrTwice {
		t.Error("the last ID is that of the first edge:", Right(late))
	}
	if Right(make([]api.Edge, 100000)) != api.ErrLong {
		t.Error("100000 edges")
	}
}

// P5.1: by the words of the chapter, for edges of which many are wrong.
func TestRightIsExact(t *testing.T) {
	r := source()
	numbers := []int{-1, 0, 1, 9999, 10000, 1000000, 1000001, math.MinInt, math.MaxInt}
	pick := func(odd int) int {
		if r.IntN(odd) == 0 {
			return numbers[r.IntN(len(numbers))]
		}
		return r.IntN(10000)
	}
	seen := map[api.Errno]int{}
	for range 20000 {
		l := make([]api.Edge, r.IntN(8))
		odd := 1 + r.IntN(30)
		for i := range l {
			l[i] = api.Edge{ID: r.IntN(40) - 20, From: pick(odd), To: pick(odd), Cost: pick(odd)}
		}
		want := rightByWords(l)
		unchanged(t, l, func(l []api.Edge) {
			if got := Right(l); got != want {
				t.Fatalf("%v: %v, want %v", l, got, want)
			}
		})
		seen[want]++
	}
	if seen[api.OK] < 1000 || seen[api.ErrRange] < 1000 || seen[api.ErrTwice] < 1000 {
		t.Error("the edges are too much alike:", seen)
	}
}

func rightByWords(l []api.Edge) api.Errno {
	for i, e := range l {
		for _, n := range [][2]int{{e.From, 9999}, {e.To, 9999}, {e.Cost, 1000000}} {
			if n[0] != min(max(n[0], 0), n[1]) {
				return api.ErrRange
			}
		}
		if slices.ContainsFunc(l[:i], func(o api.Edge) bool { return o.ID == e.ID }) {
			return api.ErrTwice
		}
	}
	return api.OK
}

// P5.5
func TestWithout(t *testing.T) {
	l := []api.Edge{{ID: 8, From: 1, To: 2, Cost: 5}, {ID: -3, From: 2, To: 3}, {ID: math.MinInt, From: 3, To: 1}, {ID: 0, From: 1, To: 1}, {ID: math.MaxInt, From: 9999}, {ID: 2, From: 8, To: 0, Cost: 9}}
	for i, c := range []struct{ ids, left []int }{
		{nil, []int{8, -3, math.MinInt, 0, math.MaxInt, 2}}, {[]int{}, []int{8, -3, math.MinInt, 0, math.MaxInt, 2}}, {[]int{1, 3, 9, 5, math.MaxInt - 1, math.MinInt + 1}, []int{8, -3, math.MinInt, 0, math.MaxInt, 2}},
		{[]int{8}, []int{-3, math.MinInt, 0, math.MaxInt, 2}}, {[]int{2}, []int{8, -3, math.MinInt, 0, math.MaxInt}}, {[]int{0}, []int{8, -3, math.MinInt, math.MaxInt, 2}}, {[]int{math.MaxInt, -3, math.MinInt}, []int{8, 0, 2}},
		{[]int{2, 2, 77, 8, 2, -3, 77}, []int{math.MinInt, 0, math.MaxInt}}, {[]int{8, -3, math.MinInt, 0, math.MaxInt, 2}, nil}, {[]int{2, math.MaxInt, 0, math.MinInt, -3, 8, 8}, nil}, {[]int{3, -8, -2}, []int{8, -3, math.MinInt, 0, math.MaxInt, 2}},
	} {
		got := Without(l, c.ids)
		if len(got) != len(c.left) {
			t.Fatalf("%v without %v: %v, want %v", i, c.ids, got, c.left)
		}
		for k, id := range c.left {
			if at := slices.IndexFunc(l, func(e api.Edge) bool { return e.ID == id }); got[k] != l[at] {
				t.Errorf("%v without %v: %v, want %v", i, c.ids, got[k], l[at])
			}
		}
	}
	if len(Without(nil, nil)) != 0 || len(Without([]api.Edge{}, []int{1})) != 0 || len(Without(nil, []int{0, 0})) != 0 {
		t.Error("Without of no edges")
	}
}

// P5.5
func TestWithoutIsExact(t *testing.T) {
	r := source()
	anyGraphs(r, 2000, func(l []api.Edge) {
		ids := make([]int, r.IntN(20))
		for i := range ids {
			ids[i] = r.IntN(30) - 10
		}
		if len(l) > 0 && r.IntN(8) == 0 {
			for _, e := range l {
				ids = append(ids, e.ID)
			}
		}
		var want []api.Edge
		for _, e := range l {
			if slices.Index(ids, e.ID) < 0 {
				want = append(want, e)
			}
		}
		if got := Without(l, ids); !slices.Equal(got, want) {
			t.Fatalf("%v without %v: %v, want %v", l, ids, got, want)
		}
		watched(t, l, ids, markEdge, Without)
	})
}
