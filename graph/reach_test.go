package graph

import (
	"math"
	"math/rand/v2"
	"slices"
	"testing"

	"skiarea/api"
)

// reachByWalks is Reach by the definition of a path: as long as there is one, it adds the end of an edge that begins at a number that was added.
func reachByWalks(l []api.Edge, from []int) []int {
	got := slices.Clone(from)
	for {
		i := slices.IndexFunc(l, func(e api.Edge) bool { return slices.Contains(got, e.From) && !slices.Contains(got, e.To) })
		if i < 0 {
			slices.Sort(got)
			return slices.Compact(got)
		}
		got = append(got, l[i].To)
	}
}

// checkReach compares Reach and Back with the words of the chapter.
func checkReach(t *testing.T, l []api.Edge, list []int) {
	t.Helper()
	if got, want := Reach(l, list), reachByWalks(l, list); !slices.Equal(got, want) {
		t.Fatalf("Reach of %v from %v: %v, want %v", l, list, got, want)
	}
	if got, want := Back(l, list), reachByWalks(turned(l), list); !slices.Equal(got, want) {
		t.Fatalf("Back of %v to %v: %v, want %v", l, list, got, want)
	}
}

// P5.2
func TestReachExamples(t *testing.T) {
	loops := numbered(edge(1, 1, 0), edge(1, 2, 0), edge(2, 1, 0), edge(2, 3, 1), edge(2, 3, 0), edge(4, 3, 0), edge(5, 5, 7))
	ends := numbered(edge(0, 9999, 1), edge(9999, 0, 1), edge(9998, 1, 1))
	for i, c := range []struct {
		l                 []api.Edge
		list, reach, back []int
	}{
		{example(), []int{2}, []int{2, 3, 4}, []int{1, 2, 5}}, {example(), []int{9}, []int{9}, []int{9}}, {example(), nil, nil, nil}, {example(), []int{}, nil, nil},
		{example(), []int{5}, []int{1, 2, 3, 4, 5}, []int{5}}, {example(), []int{4}, []int{4}, []int{1, 2, 3, 4, 5}}, {example(), []int{3, 2}, []int{2, 3, 4}, []int{1, 2, 3, 5}}, {example(), []int{4, 4, 4}, []int{4}, []int{1, 2, 3, 4, 5}},
		{example(), []int{9, 2, -1, 2, 9}, []int{-1, 2, 3, 4, 9}, []int{-1, 1, 2, 5, 9}}, {example(), []int{math.MaxInt, 3, math.MinInt}, []int{math.MinInt, 3, 4, math.MaxInt}, []int{math.MinInt, 1, 2, 3, 5, math.MaxInt}},
		{example(), []int{11, 12, 0}, []int{0, 11, 12}, []int{0, 11, 12}}, {example(), []int{-2, 2 + 1<<32}, []int{-2, 2 + 1<<32}, []int{-2, 2 + 1<<32}},
		{nil, nil, nil, nil}, {nil, []int{0}, []int{0}, []int{0}}, {nil, []int{7, -7, 7, 0}, []int{-7, 0, 7}, []int{-7, 0, 7}}, {[]api.Edge{}, []int{3, 2, 1}, []int{1, 2, 3}, []int{1, 2, 3}},
		{loops, []int{1}, []int{1, 2, 3}, []int{1, 2}}, {loops, []int{2}, []int{1, 2, 3}, []int{1, 2}}, {loops, []int{3}, []int{3}, []int{1, 2, 3, 4}}, {loops, []int{4}, []int{3, 4}, []int{4}}, {loops, []int{5}, []int{5}, []int{5}}, {loops, []int{5, 4}, []int{3, 4, 5}, []int{4, 5}},
		{ends, []int{0}, []int{0, 9999}, []int{0, 9999}}, {ends, []int{9999}, []int{0, 9999}, []int{0, 9999}}, {ends, []int{1}, []int{1}, []int{1, 9998}}, {ends, []int{9998}, []int{1, 9998}, []int{9998}}, {ends, []int{10000, -1}, []int{-1, 10000}, []int{-1, 10000}},
	} {
		if got := Reach(c.l, c.list); !slices.Equal(got, c.reach) {
			t.Errorf("%v: Reach from %v: %v, want %v", i, c.list, got, c.reach)
		}
		if got := Back(c.l, c.list); !slices.Equal(got, c.back) {
			t.Errorf("%v: Back to %v: %v, want %v", i, c.list, got, c.back)
		}
	}
}

// chain leads from 0 over all nodes to the last one; in what order its edges stand is given.
func chain(order []int) []api.Edge {
	var l []api.Edge
	for id, n := range order {
		l = append(l, api.Edge{ID: id, From: n, To: n + 1, Cost: n})
	}
	return l
}

func upTo(n int) []int {
	var l []int
	for i := range n {
		l = append(l, i)
	}
	return l
}

// P5.2: paths of 200 edges, in whatever order these stand.
func TestReachOfLongPaths(t *testing.T) {
	all := upTo(api.MaxEdges + 1)
	falling := upTo(api.MaxEdges)
	slices.Reverse(falling)
	for _, order := range [][]int{upTo(api.MaxEdges), falling, source().Perm(api.MaxEdges)} {
		l := chain(order)
		for _, n := range []int{0, 1, 99, 199, 200} {
			if got := Reach(l, []int{n}); !slices.Equal(got, all[n:]) {
				t.Error("Reach from", n, got)
			}
			if got := Back(l, []int{n}); !slices.Equal(got, all[:n+1]) {
				t.Error("Back to", n, got)
			}
		}
		round := append(l[:199:199], api.Edge{ID: 900, From: 200, To: 0})
		round = append(round, l[199])
		for _, n := range []int{0, 150, 200} {
			checkReach(t, round, []int{n})
		}
	}
	// All nodes twice, the last one first.
	list := append(slices.Clone(all), all...)
	slices.Reverse(list)
	if got := Reach(chain(falling), list); !slices.Equal(got, all) {
		t.Error("Reach from all nodes", got)
	}
	if got := Back(nil, list); !slices.Equal(got, all) {
		t.Error("Back without edges", got)
	}
}

// P5.2, for all small graphs and all lists of up to two of their nodes or a number that is none.
func TestReachOfSmallGraphs(t *testing.T) {
	smallGraphs(func(l []api.Edge) {
		if slices.ContainsFunc(l, func(e api.Edge) bool { return e.Cost > 0 }) {
			return
		}
		for a := range 5 {
			checkReach(t, l, []int{a})
			for b := range 5 {
				checkReach(t, l, []int{a, b})
			}
		}
	})
}

// someNumbers are nodes of l and other numbers, some of them several times.
func someNumbers(r *rand.Rand, l []api.Edge) []int {
	list := make([]int, r.IntN(6))
	for i := range list {
		if list[i] = r.IntN(20) - 5; len(l) > 0 && r.IntN(3) > 0 {
			list[i] = l[r.IntN(len(l))].To
		}
	}
	return list
}

// P5.2 and P5.8
func TestReachIsExact(t *testing.T) {
	r := source()
	anyGraphs(r, 3000, func(l []api.Edge) {
		list := someNumbers(r, l)
		checkReach(t, l, list)
		if got, want := Back(l, list), Reach(turned(l), list); !slices.Equal(got, want) {
			t.Fatalf("Back of %v to %v: %v, want %v", l, list, got, want)
		}
		watched(t, l, list, markNumber, Reach)
		watched(t, l, list, markNumber, Back)
	})
}

// P5.8
func TestReachWithoutEdges(t *testing.T) {
	r := source()
	anyGraphs(r, 2000, func(l []api.Edge) {
		ids := someNumbers(r, l)
		for range r.IntN(10) {
			if len(l) > 0 {
				ids = append(ids, l[r.IntN(len(l))].ID)
			}
		}
		from := someNumbers(r, l)
		more, less := Reach(l, from), Reach(Without(l, ids), from)
		for _, n := range less {
			if !slices.Contains(more, n) {
				t.Fatalf("%v without %v: %v is reached from %v", l, ids, n, from)
			}
		}
	})
}
