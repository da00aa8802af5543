package flow

import (
	"math"
	"math/rand/v2"
	"slices"
	"testing"

	"skiarea/api"
	"skiarea/graph"
)

const million = 1000000

func source() *rand.Rand { return rand.New(rand.NewPCG(6, 6)) }

// edges makes edges of triples: from, to, capacity. An ID is neither a position nor a node, and the IDs decrease.
func edges(triples ...int) []api.Edge {
	var l []api.Edge
	for i := 0; i < len(triples); i += 3 {
		l = append(l, api.Edge{ID: -500 - i, From: triples[i], To: triples[i+1], Cost: triples[i+2]})
	}
	return l
}

// example is the graph of the chapter's examples.
func example() []api.Edge { return edges(1, 2, 3, 1, 3, 2, 2, 3, 2, 2, 4, 1, 3, 4, 5) }

// chain leads from 0 over all nodes to the last one.
func chain(capacities ...int) []api.Edge {
	var triples []int
	for n, c := range capacities {
		triples = append(triples, n, n+1, c)
	}
	return edges(triples...)
}

func repeated(n, times int) []int { return slices.Repeat([]int{n}, times) }

func upTo(n int) []int {
	l := make([]int, n)
	for i := range l {
		l[i] = i
	}
	return l
}

// reversed returns the edges with From and To exchanged.
func reversed(l []api.Edge) []api.Edge {
	var out []api.Edge
	for _, e := range l {
		out = append(out, api.Edge{ID: e.ID, From: e.To, To: e.From, Cost: e.Cost})
	}
	return out
}

// nodesWith returns the nodes of l and the others, in increasing order.
func nodesWith(l []api.Edge, others ...int) []int {
	nodes := slices.Clone(others)
	for _, e := range l {
		nodes = append(nodes, e.From, e.To)
	}
	slices.Sort(nodes)
	return slices.Compact(nodes)
}

// net is the sum of the elements of the edges that lead away from the node, less the sum of those that lead to it.
func net(l []api.Edge, f []int, node int) int {
	away, to := 0, 0
	for i, e := range l {
		if e.From == node {
			away += f[i]
		}
		if e.To == node {
			to += f[i]
		}
	}
	return away - to
}

// isFlow is Valid by the words of the chapter.
func isFlow(l []api.Edge, f []int, s, t int) bool {
	if len(f) != len(l) {
		return false
	}
	for i, n := range f {
		if n != min(max(n, 0), l[i].Cost) {
			return false
		}
	}
	return !slices.ContainsFunc(nodesWith(l), func(n int) bool { return n != s && n != t && net(l, f, n) != 0 })
}

// capacityOf is the sum of the capacities of the edges with these indices.
func capacityOf(l []api.Edge, out []int) int {
	sum := 0
	for _, i := range out {
		sum += l[i].Cost
	}
	return sum
}

// leadingOut returns the indices of the edges that lead out of the set.
func leadingOut(l []api.Edge, inside map[int]bool) []int {
	var out []int
	for i, e := range l {
		if inside[e.From] && !inside[e.To] {
			out = append(out, i)
		}
	}
	return out
}

// separatingSets returns all separating sets of nodes of l for s and t.
func separatingSets(l []api.Edge, s, t int) []map[int]bool {
	sets := []map[int]bool{{s: true}}
	for _, n := range nodesWith(l) {
		if n == s || n == t {
			continue
		}
		for _, smaller := range slices.Clone(sets) {
			set := map[int]bool{n: true}
			for m := range smaller {
				set[m] = true
			}
			sets = append(sets, set)
		}
	}
	return sets
}

// leastMinimal returns the intersection of all separating sets with the least capacity, and this capacity.
func leastMinimal(l []api.Edge, s, t int) (map[int]bool, int) {
	least := math.MaxInt
	var common map[int]bool
	for _, set := range separatingSets(l, s, t) {
		c := capacityOf(l, leadingOut(l, set))
		if c > least {
			continue
		}
		both := map[int]bool{}
		for n := range set {
			both[n] = c < least || common[n]
		}
		least, common = c, both
	}
	return common, least
}

// eachList calls f with all lists that have an element from low to the capacity and over for each edge.
func eachList(l []api.Edge, low, over int, f func(list []int)) {
	list := repeated(low, len(l))
	for {
		f(list)
		i := 0
		for ; i < len(l) && list[i] == l[i].Cost+over; i++ {
			list[i] = low
		}
		if i == len(l) {
			return
		}
		list[i]++
	}
}

// smallGraphs calls f with all lists of up to three edges with the capacities 0 and 1 between three nodes, and all lists of two with the capacities 0 to 2.
func smallGraphs(f func(l []api.Edge)) {
	for n := range 18 * 18 * 18 {
		var triples []int
		for rest := n; rest > 0; rest /= 18 {
			triples = append(triples, rest/6%3, rest/2%3, rest%2)
		}
		f(edges(triples...))
	}
	for n := range 27 * 27 {
		f(edges(n/9%3, n/3%3, n%3, n/27/9, n/27/3%3, n/27%3))
	}
}

// randomGraph is a list of edges between numbers that stand next to each other, or far apart. Its IDs are not in order.
func randomGraph(r *rand.Rand, count, nodes, capacities int) []api.Edge {
	step := 1
	if r.IntN(2) == 0 {
		step = api.MaxID / nodes
	}
	l := make([]api.Edge, count)
	ids := r.Perm(3 * count)
	for i := range l {
		l[i] = api.Edge{ID: ids[i] - count, From: step * r.IntN(nodes), To: step * r.IntN(nodes), Cost: r.IntN(capacities)}
	}
	return l
}

// layered is a graph whose edges lead mostly from a layer to the next one, the first one from 0 on, so that flows have to share long paths.
func layered(r *rand.Rand, count, capacities int) []api.Edge {
	l := randomGraph(r, count, 1000, capacities)
	layers := 2 + r.IntN(6)
	width := 1 + count/(3*layers)
	for i := range l {
		at := r.IntN(layers + 1)
		l[i].From, l[i].To = 1+at*width+r.IntN(width), 1+(at+1)*width+r.IntN(width)
		if at == 0 {
			l[i].From = 0
		}
		if r.IntN(10) == 0 {
			l[i].From, l[i].To = l[i].To, l[i].From
		}
	}
	return l
}

// anyGraphs calls f with n random graphs of up to MaxEdges edges, and a node and mostly one that can be reached from it, or rarely numbers that are no nodes.
func anyGraphs(r *rand.Rand, n int, f func(l []api.Edge, s, t int)) {
	for i := range n {
		capacities := []int{2, 3, 12, million + 1}[r.IntN(4)]
		var l []api.Edge
		switch i % 5 {
		case 0:
			l = randomGraph(r, r.IntN(12), 1+r.IntN(6), capacities)
		case 1:
			l = randomGraph(r, 20+r.IntN(60), 2+r.IntN(20), capacities)
		case 2:
			l = randomGraph(r, api.MaxEdges-r.IntN(2), 2+r.IntN(100), capacities)
		case 3:
			l = layered(r, 8+r.IntN(40), capacities)
		case 4:
			l = layered(r, api.MaxEdges-r.IntN(20), capacities)
		}
		nodes := nodesWith(l, 77, 9999)
		s := nodes[r.IntN(len(nodes))]
		if i%5 >= 3 {
			s = 0
		}
		if r.IntN(8) > 0 {
			nodes = graph.Reach(l, []int{s})
		}
		f(l, s, nodes[len(nodes)-1-r.IntN(len(nodes))/3])
	}
}

// roomy returns a copy of l in which marks stand behind the elements, within its capacity.
func roomy[T any](l []T, mark T) []T {
	return append(slices.Clone(l), mark, mark, mark)[:len(l)]
}

var markEdge = api.Edge{ID: -77, From: -77, To: -77, Cost: -77}

const markNumber = -77

// unchanged calls f with copies of l and list, and checks that f changed neither them nor the room behind them.
func unchanged(t *testing.T, l []api.Edge, list []int, f func(l []api.Edge, list []int)) {
	t.Helper()
	copied, numbers := roomy(l, markEdge), roomy(list, markNumber)
	f(copied, numbers)
	all, whole := copied[:len(l)+3], numbers[:len(list)+3]
	if !slices.Equal(all, append(slices.Clone(l), markEdge, markEdge, markEdge)) || !slices.Equal(whole, append(slices.Clone(list), markNumber, markNumber, markNumber)) {
		t.Fatalf("%v and %v are %v and %v", l, list, all, whole)
	}
}

// ownMemory checks that f returns the same list for the same edges, that it changes no edge, and that each list is memory of its own.
func ownMemory(t *testing.T, l []api.Edge, f func(l []api.Edge) []int) {
	t.Helper()
	unchanged(t, l, nil, func(l []api.Edge, _ []int) {
		first := f(l)
		kept := slices.Clone(first)
		for i := range first[:cap(first)] {
			first[:cap(first)][i] = markNumber
		}
		second := f(l)
		if !slices.Equal(second, kept) {
			t.Fatalf("%v: %v, then %v", l, kept, second)
		}
		// What was returned stays when the edges change.
		before := slices.Clone(l)
		for i := range l {
			l[i] = api.Edge{ID: i, From: l[i].To + 1, To: l[i].From, Cost: l[i].Cost + 1}
		}
		f(l)
		if !slices.Equal(second, kept) {
			t.Fatalf("%v: %v became %v", before, kept, second)
		}
		copy(l, before)
	})
}

// P6.1 to P6.4: no argument is changed, and no result shares memory with one or with another result.
func TestArgumentsAndResults(t *testing.T) {
	r := source()
	anyGraphs(r, 500, func(l []api.Edge, s, to int) {
		ownMemory(t, l, func(l []api.Edge) []int { return Find(l, s, to) })
		ownMemory(t, l, func(l []api.Edge) []int { return Cut(l, s, to) })
		f := Find(l, s, to)
		broken := slices.Clone(f)
		for i := range broken {
			broken[i] += r.IntN(3) - 1
		}
		for _, list := range [][]int{f, broken, f[:len(f)/2], append(slices.Clone(f), 0)} {
			unchanged(t, l, list, func(l []api.Edge, list []int) {
				Valid(l, list, s, to)
				if Value(l, f, s) != Max(l, s, to) {
					t.Fatalf("%v from %v to %v: %v", l, s, to, f)
				}
			})
		}
	})
}

// No function panics or goes on for ever, also for edges, flows and nodes for which the chapter defines nothing.
func TestEdgesThatAreNotRight(t *testing.T) {
	r := source()
	numbers := []int{math.MinInt, math.MaxInt, math.MinInt + 1, -1000001, -1, 0, 1, 2, 3, 10000, 1 << 62, -1 << 62}
	pick := func() int { return numbers[r.IntN(len(numbers))] }
	for range 5000 {
		l := make([]api.Edge, r.IntN(12))
		for i := range l {
			l[i] = api.Edge{ID: pick(), From: pick() % 4, To: pick() % 4, Cost: pick()}
		}
		list := make([]int, r.IntN(14))
		for i := range list {
			list[i] = pick()
		}
		s, to := pick(), pick()
		if r.IntN(2) == 0 {
			s, to = s%4, to%4
		}
		Valid(l, list, s, to)
		Value(l, list, s)
		Max(l, s, to)
		if f := Find(l, s, to); len(f) != len(l) {
			t.Fatalf("%v: %v", l, f)
		}
		for _, i := range Cut(l, s, to) {
			if i < 0 || i >= len(l) {
				t.Fatalf("%v: an index is %v", l, i)
			}
		}
	}
	long := chain(repeated(7, 2000)...)
	if n := Max(long, 0, 2000); n != 7 {
		t.Error("a chain of 2000 edges:", n)
	}
	if out := Cut(long, 0, 2000); !slices.Equal(out, []int{0}) {
		t.Error("a chain of 2000 edges:", out)
	}
}
