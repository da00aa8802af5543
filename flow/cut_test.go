package flow

import (
	"slices"
	"testing"

	"skiarea/api"
	"skiarea/graph"
)

// P6.4: of several sets with the least capacity it is the least one.
func TestCutOfSeveralSets(t *testing.T) {
	// Each of the four edges of the row leads alone out of a set with the least capacity.
	row := chain(3, 3, 3, 3)
	ask(t, row, question{0, 4, 3, []int{0}})
	ask(t, append(row, api.Edge{ID: 1, From: 0, To: 9, Cost: 5}), question{0, 4, 3, []int{0}})
	ask(t, append(row, api.Edge{ID: 1, From: 0, To: 9}), question{0, 4, 3, []int{0, 4}})
	ask(t, append(row, api.Edge{ID: 1, From: 8, To: 2, Cost: 5}), question{0, 4, 3, []int{0}})
	ask(t, append(row, api.Edge{ID: 1, From: 0, To: 1, Cost: 1}), question{0, 4, 3, []int{1}})
	ask(t, append(row, api.Edge{ID: 1, From: 0, To: 2, Cost: 1}), question{0, 4, 3, []int{2}})
	ask(t, append(row, api.Edge{ID: 1, From: 0, To: 3, Cost: 1}), question{0, 4, 3, []int{3}})
	ask(t, append(row, api.Edge{ID: 1, From: 0, To: 4, Cost: 1}), question{0, 4, 4, []int{0, 4}})
	ask(t, append(row, api.Edge{ID: 1, From: 3, To: 0, Cost: 7}), question{0, 4, 3, []int{0}})
	// 3 could get more by 6 than what is left of its edge to 4, so that what flows from 2 to 3 could go back to 2, and on to 7. The edge from 7 to 4 has the capacity 0.
	ask(t, edges(1, 2, 1, 2, 3, 1, 3, 4, 2, 1, 5, 2, 5, 6, 2, 6, 3, 2, 2, 7, 1, 7, 4, 0), question{1, 4, 2, []int{2, 7}})
	ask(t, edges(1, 2, 1, 2, 3, 1, 3, 4, 3, 1, 5, 2, 5, 6, 2, 6, 3, 2, 2, 7, 1, 7, 4, 0), question{1, 4, 3, []int{0, 3}})
	// From 3 on one more could flow to 6 only, by which nothing flows.
	ask(t, edges(1, 3, 4, 3, 2, 2, 2, 4, 2, 3, 4, 1, 3, 6, 1, 6, 4, 0), question{1, 4, 3, []int{1, 3, 5}})
}

// checkCut checks the edges of Cut, and Max and Find by them: a flow and a cut that have the same sum are the greatest and the least one. (P6.5)
func checkCut(t *testing.T, l []api.Edge, s, to int) {
	t.Helper()
	n, f, out := Max(l, s, to), Find(l, s, to), Cut(l, s, to)
	if !isFlow(l, f, s, to) || net(l, f, s) != n || Value(l, f, s) != n || !Valid(l, f, s, to) {
		t.Fatalf("%v from %v to %v: Max is %v, Find %v", l, s, to, n, f)
	}
	if capacityOf(l, out) != n {
		t.Fatalf("%v from %v to %v: Max is %v, Cut %v with %v", l, s, to, n, out, capacityOf(l, out))
	}
	var ids []int
	for k, i := range out {
		if ids = append(ids, l[i].ID); k > 0 && out[k-1] >= i {
			t.Fatalf("%v from %v to %v: Cut is %v", l, s, to, out)
		}
	}
	if s != to && slices.Contains(graph.Reach(graph.Without(l, ids), []int{s}), to) {
		t.Fatalf("%v from %v to %v: a path leads past %v", l, s, to, out)
	}
	if s == to && (n != 0 || len(out) > 0 || !slices.Equal(f, make([]int, len(l)))) {
		t.Fatalf("%v from %v to itself: %v, %v, %v", l, s, n, f, out)
	}
}

// P6.2 to P6.5
func TestCutIsExact(t *testing.T) {
	positive := 0
	anyGraphs(source(), 4000, func(l []api.Edge, s, to int) {
		if checkCut(t, l, s, to); Max(l, s, to) > 0 {
			positive++
		}
	})
	if positive < 2000 {
		t.Error("only", positive, "flows are positive")
	}
}

// P6.4: a node belongs to the least minimal set exactly if an edge of the capacity 1 from it to t would let more flow: then each set with the least capacity contains it.
func TestCutIsOfTheLeastSet(t *testing.T) {
	r := source()
	several := 0
	anyGraphs(r, 400, func(l []api.Edge, s, to int) {
		if s == to {
			return
		}
		l = l[:min(len(l), api.MaxEdges-1)]
		n := Max(l, s, to)
		inside := map[int]bool{s: true}
		for _, node := range nodesWith(l) {
			inside[node] = node != to && Max(append(slices.Clone(l), api.Edge{ID: 1 << 20, From: node, To: to, Cost: 1}), s, to) > n
		}
		inside[s] = true
		if got, want := Cut(l, s, to), leadingOut(l, inside); !slices.Equal(got, want) {
			t.Fatalf("%v from %v to %v: %v, want %v", l, s, to, got, want)
		}
		// The cut of the reversed edges is that of the greatest minimal set: if it is another one, there are several sets.
		if slices.Compare(Cut(l, s, to), Cut(reversed(l), to, s)) != 0 {
			several++
		}
	})
	if several < 150 {
		t.Error("only", several, "graphs have several sets")
	}
}
