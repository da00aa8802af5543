package flow

import (
	"math"
	"slices"
	"testing"

	"skiarea/api"
)

// P6.1
func TestValidExamples(t *testing.T) {
	twice := edges(1, 2, 4, 1, 2, 6, 2, 1, 3)
	loop := edges(1, 2, 5, 2, 3, 5, 3, 1, 5)
	self := edges(1, 1, 9, 1, 2, 4, 2, 2, million, 2, 3, 4, 3, 3, 0)
	ends := edges(0, 9999, million, 9999, 0, million)
	empty := edges(1, 2, 0, 2, 3, 0)
	for i, c := range []struct {
		l     []api.Edge
		f     []int
		s, t  int
		ok    bool
		value int
	}{
		{example(), []int{3, 2, 2, 1, 4}, 1, 4, true, 5}, {example(), []int{3, 2, 2, 1, 3}, 1, 4, false, 0}, {example(), []int{3, 2, 2, 1, 1}, 1, 3, false, 0},
		{example(), []int{0, 0, 0, 0, 0}, 1, 4, true, 0}, {example(), []int{3, 2, 2, 1, 4}, 4, 1, true, -5}, {example(), []int{2, 2, 2, 0, 4}, 1, 4, true, 4}, {example(), []int{1, 0, 1, 0, 1}, 1, 4, true, 1},
		{example(), []int{1, 0, 0, 1, 0}, 1, 4, true, 1}, {example(), []int{0, 0, 2, 0, 2}, 2, 4, true, 2}, {example(), []int{3, 2, 2, 1, 0}, 1, 3, false, 0}, {example(), []int{3, 2, 3, 0, 5}, 1, 4, false, 0},
		// The balance is broken at one node only, at 2 or at 3: what is missing there is at s or t.
		{example(), []int{2, 2, 2, 1, 4}, 1, 4, false, 0}, {example(), []int{3, 2, 2, 0, 4}, 1, 4, false, 0}, {example(), []int{3, 1, 2, 1, 4}, 1, 4, false, 0}, {example(), []int{3, 2, 2, 1, 5}, 1, 4, false, 0}, {example(), []int{0, 1, 0, 0, 0}, 1, 4, false, 0}, {example(), []int{0, 0, 0, 1, 0}, 1, 4, false, 0},
		// Each node can be s or t, and with one that is in no edge, less is allowed.
		{example(), []int{0, 1, 0, 0, 0}, 1, 3, true, 1}, {example(), []int{0, 1, 0, 0, 0}, 3, 1, true, -1}, {example(), []int{0, 1, 0, 0, 0}, 1, 9, false, 0}, {example(), []int{0, 1, 0, 0, 0}, 9, 3, false, 0}, {example(), []int{0, 1, 0, 0, 0}, 9, 8, false, 0}, {example(), []int{0, 0, 0, 0, 0}, 9, 8, true, 0}, {example(), []int{0, 0, 0, 0, 0}, -1, math.MaxInt, true, 0},
		{example(), []int{0, 0, 0, 0, 0}, 1, 1, true, 0}, {example(), []int{0, 1, 0, 0, 0}, 1, 1, false, 0}, {example(), []int{0, 1, 0, 0, 1}, 1, 1, false, 0}, {example(), []int{0, 1, 0, 0, 0}, 3, 3, false, 0}, {example(), []int{0, 0, 0, 0, 0}, 9, 9, true, 0},
		{nil, nil, 1, 2, true, 0}, {nil, []int{}, 1, 1, true, 0}, {[]api.Edge{}, nil, -5, 10000, true, 0}, {nil, []int{0}, 1, 2, false, 0}, {nil, []int{1}, 1, 2, false, 0},
		{twice, []int{4, 6, 0}, 1, 2, true, 10}, {twice, []int{0, 6, 3}, 1, 2, true, 3}, {twice, []int{0, 0, 3}, 1, 2, true, -3}, {twice, []int{0, 0, 3}, 2, 1, true, 3}, {twice, []int{1, 2, 3}, 1, 1, true, 0}, {twice, []int{1, 2, 3}, 8, 9, true, 0}, {twice, []int{6, 4, 0}, 1, 2, false, 0}, {twice, []int{1, 2, 2}, 8, 9, false, 0}, {twice, []int{1, 2, 2}, 2, 2, false, 0},
		{loop, []int{4, 4, 4}, 8, 9, true, 0}, {loop, []int{4, 4, 4}, 1, 2, true, 0}, {loop, []int{4, 4, 3}, 1, 3, true, 1}, {loop, []int{3, 4, 4}, 1, 2, true, -1}, {loop, []int{4, 4, 3}, 1, 2, false, 0}, {loop, []int{4, 4, 3}, 2, 2, false, 0}, {loop, []int{5, 5, 5}, 2, 2, true, 0},
		// An edge from a node to itself leads to it and away from it.
		{self, []int{9, 4, million, 4, 0}, 1, 3, true, 4}, {self, []int{9, 0, 7, 0, 0}, 1, 3, true, 0}, {self, []int{0, 4, million, 4, 0}, 3, 1, true, -4}, {self, []int{9, 4, 1, 3, 0}, 1, 3, false, 0}, {self, []int{9, 4, 1, 3, 0}, 1, 2, false, 0}, {self, []int{9, 4, 1, 0, 0}, 1, 2, true, 4}, {self, []int{9, 4, million, 4, 1}, 1, 3, false, 0}, {self, []int{10, 4, million, 4, 0}, 1, 3, false, 0}, {self, []int{9, 4, million + 1, 4, 0}, 1, 3, false, 0},
		{ends, []int{million, 0}, 0, 9999, true, million}, {ends, []int{million, million}, 0, 9999, true, 0}, {ends, []int{0, million}, 0, 9999, true, -million}, {ends, []int{million + 1, 0}, 0, 9999, false, 0}, {ends, []int{million + 1, million + 1}, 0, 9999, false, 0}, {ends, []int{million, 0}, 0, 1, false, 0}, {ends, []int{million, 0}, 0, -9999, false, 0}, {ends, []int{7, 7}, 5, 6, true, 0},
		{empty, []int{0, 0}, 1, 3, true, 0}, {empty, []int{1, 1}, 1, 3, false, 0}, {empty, []int{0, 1}, 2, 3, false, 0}, {empty, []int{-1, -1}, 1, 3, false, 0},
	} {
		ok := Valid(c.l, c.f, c.s, c.t)
		if ok != c.ok {
			t.Errorf("%v: %v from %v to %v: %v", i, c.f, c.s, c.t, ok)
		}
		if ok && Value(c.l, c.f, c.s) != c.value {
			t.Errorf("%v: the value of %v from %v is %v, want %v", i, c.f, c.s, Value(c.l, c.f, c.s), c.value)
		}
	}
}

// P6.1: lists that are too short or too long, and with elements out of the bounds.
func TestValidLists(t *testing.T) {
	flow := []int{3, 2, 2, 1, 4}
	for n := range 5 {
		if Valid(example(), flow[:n], 1, 4) || Valid(example(), make([]int, n), 1, 4) {
			t.Error("a list with", n, "elements")
		}
	}
	if Valid(example(), nil, 1, 4) || Valid(example(), append(slices.Clone(flow), 0), 1, 4) || Valid(example(), append(slices.Clone(flow), flow...), 1, 4) || Valid(example(), make([]int, 100000), 1, 4) {
		t.Error("nil, or a list that is too long")
	}
	for i := range flow {
		for _, n := range []int{math.MinInt, math.MaxInt, -1, example()[i].Cost + 1, flow[i] + 1<<32, flow[i] - 1<<32, math.MinInt + flow[i]} {
			wrong := slices.Clone(flow)
			if wrong[i] = n; Valid(example(), wrong, 1, 4) {
				t.Error(wrong)
			}
		}
	}
	// The balance would hold at 2: an element below 0, one above its capacity, and sums that overflow.
	through := edges(1, 2, million, 1, 2, million, 2, 3, million)
	for _, wrong := range [][]int{{-1, 1, 0}, {1, -1, 0}, {-1, 0, -1}, {million + 1, -1, million}, {million + 1, 0, million + 1}, {million, 1, million + 1}, {math.MaxInt, 1, math.MinInt}, {1, math.MaxInt, math.MinInt}, {math.MinInt, math.MinInt, 0}, {math.MaxInt, 0, math.MaxInt}, {math.MinInt, 0, math.MinInt}, {math.MaxInt, math.MinInt, -1}, {1 << 32, -1 << 32, 0}} {
		if Valid(through, wrong, 1, 3) {
			t.Error(wrong)
		}
	}
	for _, right := range [][]int{{million, 0, million}, {0, million, million}, {million - 1, 1, million}, {0, 0, 0}} {
		if !Valid(through, right, 1, 3) || Value(through, right, 1) != right[2] || Value(through, right, 3) != -right[2] {
			t.Error(right)
		}
	}
	if both := []int{million, million, million}; Valid(through, both, 1, 3) || Valid(through, both, 3, 1) {
		t.Error("two million lead to 2, and one away from it")
	}
}

// P6.1: 200 edges that are full, in a row and side by side. One element less breaks the balance at a node.
func TestValidOfManyEdges(t *testing.T) {
	l := chain(repeated(million, api.MaxEdges)...)
	full := repeated(million, api.MaxEdges)
	if !Valid(l, full, 0, 200) || Value(l, full, 0) != million || Value(l, full, 200) != -million {
		t.Error("a full chain:", Valid(l, full, 0, 200), Value(l, full, 0))
	}
	for i := range full {
		full[i]--
		if Valid(l, full, 0, 200) || Valid(l, full, 200, 0) {
			t.Error("a chain with less at", i)
		}
		full[i]++
	}
	if Valid(l, full[:199], 0, 200) || Valid(l[:199], full, 0, 199) {
		t.Error("200 and 199 elements")
	}
	var triples []int
	for range api.MaxEdges {
		triples = append(triples, 3, 4, million)
	}
	wide := edges(triples...)
	if !Valid(wide, full, 3, 4) || Value(wide, full, 3) != 200*million || Value(wide, full, 4) != -200*million {
		t.Error("full edges side by side:", Valid(wide, full, 3, 4), Value(wide, full, 3))
	}
	if Valid(wide, full, 3, 5) || Valid(wide, full, 5, 4) || Valid(wide, full, 3, 3) || Valid(wide, full, 1, 2) {
		t.Error("full edges side by side, that end at no t")
	}
}

// P6.1, by the words of the chapter, for all lists that go over the bounds by up to one.
func TestValidOfSmallGraphs(t *testing.T) {
	r := source()
	check := func(l []api.Edge, s, to int) {
		eachList(l, -1, 1, func(f []int) {
			ok := Valid(l, f, s, to)
			if ok != isFlow(l, f, s, to) {
				t.Fatalf("%v from %v to %v: %v: %v", l, s, to, f, ok)
			}
			if ok && (Value(l, f, s) != net(l, f, s) || s != to && Value(l, f, to) != -Value(l, f, s) || s == to && Value(l, f, s) != 0) {
				t.Fatalf("%v from %v to %v: the value of %v is %v", l, s, to, f, Value(l, f, s))
			}
		})
	}
	smallGraphs(func(l []api.Edge) {
		for s := range 4 {
			check(l, s, r.IntN(4))
		}
	})
	for range 300 {
		l := randomGraph(r, 4+r.IntN(2), 2+r.IntN(4), 4)
		nodes := nodesWith(l, -1)
		check(l, nodes[r.IntN(len(nodes))], nodes[r.IntN(len(nodes))])
	}
}
