package clock

import (
	"math"
	"math/rand/v2"
	"slices"
	"testing"

	"skiarea/api"
)

type list = []api.Interval

// spans returns the intervals between each two numbers.
func spans(ends ...int) list {
	var l list
	for i := 0; i < len(ends); i += 2 {
		l = append(l, api.Interval{From: ends[i], To: ends[i+1]})
	}
	return l
}

// window is how many times in a row a table of membership holds.
const window = 12

// table is which of the times from base on are in a set.
type table [window]bool

// tableOf is the definition of the set of a list, for the times from base on.
func tableOf(l list, base int) table {
	var s table
	for _, v := range l {
		if 0 <= v.From && v.From <= v.To && v.To <= last {
			for i := range s {
				s[i] = s[i] || v.From <= base+i && base+i < v.To
			}
		}
	}
	return s
}

// runs are the intervals of a table: the only list of the form that Merge returns.
func (s table) runs(base int) list {
	var l list
	for i, in := range s {
		switch {
		case in && (i == 0 || !s[i-1]):
			l = append(l, api.Interval{From: base + i, To: base + i + 1})
		case in:
			l[len(l)-1].To++
		}
	}
	return l
}

func (s table) count() int {
	n := 0
	for _, in := range s {
		if in {
			n++
		}
	}
	return n
}

func (s table) less(r table) table {
	for i := range s {
		s[i] = s[i] && !r[i]
	}
	return s
}

func (s table) both(r table) table {
	for i := range s {
		s[i] = s[i] && r[i]
	}
	return s
}

// bases are where the windows begin: some of their numbers are not times.
func bases() []int { return []int{-4, 0, 86395, last - 5} }

func checkSet(t *testing.T, l list, base int) {
	t.Helper()
	s := tableOf(l, base)
	m := Merge(l)
	if !slices.Equal(m, s.runs(base)) {
		t.Fatal("Merge of", l, "is", m)
	}
	if !slices.Equal(Merge(m), m) {
		t.Fatal("Merge of", m, "is", Merge(m))
	}
	if Length(l) != s.count() || Length(m) != s.count() {
		t.Fatal("Length of", l, "is", Length(l), "and merged", Length(m))
	}
	for i, in := range s {
		if Cover(l, base+i) != in || Cover(m, base+i) != in {
			t.Fatal("Cover of", l, "at", base+i, "is", Cover(l, base+i), "and merged", Cover(m, base+i))
		}
	}
}

func checkMinus(t *testing.T, a, b list, base int) {
	t.Helper()
	s, r := tableOf(a, base), tableOf(b, base)
	d := Minus(a, b)
	if !slices.Equal(d, s.less(r).runs(base)) {
		t.Fatal(a, "minus", b, "is", d)
	}
	for i := range s {
		if Cover(d, base+i) != (Cover(a, base+i) && !Cover(b, base+i)) {
			t.Fatal(a, "minus", b, "is", d, "at", base+i)
		}
	}
	common := Minus(a, d)
	if !slices.Equal(common, s.both(r).runs(base)) {
		t.Fatal(a, "and", b, "have", common, "in common")
	}
	if Length(a)+Length(b) != Length(slices.Concat(a, b))+Length(common) {
		t.Fatal("lengths of", a, "and", b)
	}
}

// allIntervals returns each interval between the first n numbers of a window, valid or not.
func allIntervals(base, n int) list {
	var l list
	for from := range n {
		for to := range n {
			l = append(l, api.Interval{From: base + from, To: base + to})
		}
	}
	return l
}

// TestSetsOfFew goes through all lists of up to 3 intervals of few numbers.
func TestSetsOfFew(t *testing.T) {
	for _, base := range []int{-2, 5, last - 3} {
		few := allIntervals(base, 6)
		checkSet(t, nil, base)
		checkSet(t, list{}, base)
		for _, u := range few {
			checkSet(t, list{u}, base)
			for _, v := range few {
				checkSet(t, list{u, v}, base)
				for _, w := range few {
					checkSet(t, list{u, v, w}, base)
				}
			}
		}
	}
}

// TestMinusOfFew takes each interval and each pair from each pair, over few numbers.
func TestMinusOfFew(t *testing.T) {
	for _, base := range []int{-1, last - 3} {
		few := allIntervals(base, 5)
		for _, u := range few {
			checkMinus(t, list{u}, nil, base)
			checkMinus(t, nil, list{u}, base)
			for _, v := range few {
				checkMinus(t, list{u}, list{v}, base)
				for _, w := range few {
					checkMinus(t, list{u}, list{v, w}, base)
					checkMinus(t, list{u, v}, list{w}, base)
				}
			}
		}
	}
	checkMinus(t, nil, nil, 0)
}

// anyList returns up to n intervals with ends in the window, or far away from all times.
func anyList(r *rand.Rand, n, base int) list {
	far := []int{math.MinInt, math.MinInt + 1, math.MaxInt - 1, math.MaxInt, -1, last + 1, -api.Week, last + api.Week}
	l := make(list, r.IntN(n+1))
	for i := range l {
		l[i] = api.Interval{From: base + r.IntN(window+1), To: base + r.IntN(window+1)}
		switch r.IntN(8) {
		case 0:
			l[i].From = far[r.IntN(len(far))]
		case 1:
			l[i].To = far[r.IntN(len(far))]
		}
	}
	return l
}

func TestSetsAny(t *testing.T) {
	r := source()
	for range 20000 {
		base := bases()[r.IntN(len(bases()))]
		a, b := anyList(r, 9, base), anyList(r, 9, base)
		checkSet(t, a, base)
		checkMinus(t, a, b, base)
	}
}

func TestMerge(t *testing.T) {
	for i, c := range []struct{ l, want list }{
		{spans(5, 9, 20, 30, 9, 12, 7, 7, 40, 35), spans(5, 12, 20, 30)},
		{nil, nil}, {list{}, nil}, {spans(0, 0), nil}, {spans(last, last), nil}, {spans(9, 8), nil},
		{spans(0, last), spans(0, last)}, {spans(last-1, last), spans(last-1, last)},
		// No part of an interval that is not valid counts.
		{spans(-1, 5, 3, last+1, last, last+1, last+1, last+2, math.MinInt, math.MaxInt, math.MinInt, 7, 7, math.MaxInt, math.MaxInt, math.MinInt, -5, -3), nil},
		{spans(-1, 5, 2, 4, math.MinInt, 3), spans(2, 4)},
		// Intervals that touch become one, with a time between them they stay two.
		{spans(0, 5, 5, 6), spans(0, 6)}, {spans(5, 6, 0, 5), spans(0, 6)}, {spans(0, 5, 6, 7), spans(0, 5, 6, 7)},
		{spans(0, 5, 2, 3, 4, 8), spans(0, 8)}, {spans(0, 50, 2, 3, 10, 20, 50, 51), spans(0, 51)}, {spans(4, 4, 3, 5, 5, 5, 9, 9), spans(3, 5)},
		{spans(7, 9, 7, 8, 7, 9, 7, 12), spans(7, 12)},
		// An empty interval fills no gap.
		{spans(0, 5, 5, 5, 6, 7, 6, 6), spans(0, 5, 6, 7)},
	} {
		if got := Merge(c.l); !slices.Equal(got, c.want) {
			t.Error(i, c.l, "is", got, "want", c.want)
		}
	}
}

func TestMergeMany(t *testing.T) {
	const n = 100000
	r := source()
	var l, odd list
	for _, i := range r.Perm(n) {
		l = append(l, api.Interval{From: 3 * i, To: 3*i + 3})
		odd = append(odd, api.Interval{From: 3*i + 1, To: 3*i + 2})
	}
	if m := Merge(l); !slices.Equal(m, spans(0, 3*n)) {
		t.Error("touching intervals become", len(m))
	}
	if m := Merge(odd); len(m) != n || Length(odd) != n || !slices.IsSortedFunc(m, func(a, b api.Interval) int { return a.From - b.From }) {
		t.Error("separate intervals become", len(m))
	}
	if d := Minus(l, odd); len(d) != n+1 || Length(d) != 2*n || d[0] != (api.Interval{From: 0, To: 1}) || d[n] != (api.Interval{From: 3*n - 1, To: 3 * n}) {
		t.Error("the difference has", len(d), "intervals")
	}
}

func TestCover(t *testing.T) {
	l := spans(5, 9, 20, 30, 9, 12, 7, 7, 40, 35, -3, 100, 50, last+1, last-2, last)
	for at, want := range map[int]bool{
		4: false, 5: true, 7: true, 8: true, 9: true, 11: true, 12: false, 19: false, 20: true, 29: true, 30: false, 35: false, 37: false, 40: false, 60: false,
		-3: false, -1: false, 0: false, last - 3: false, last - 2: true, last - 1: true, last: false, last + 1: false, math.MinInt: false, math.MaxInt: false,
	} {
		if Cover(l, at) != want {
			t.Error("Cover at", at, "is not", want)
		}
	}
	if Cover(nil, 0) || Cover(list{}, 0) || Cover(spans(0, 0), 0) || !Cover(spans(0, 1), 0) || Cover(spans(math.MinInt, math.MaxInt), 5) {
		t.Error("Cover of few")
	}
}

func TestLength(t *testing.T) {
	for i, c := range []struct {
		l    list
		want int
	}{
		{spans(5, 9, 20, 30, 9, 12, 7, 7, 40, 35), 17}, {nil, 0}, {list{}, 0}, {spans(3, 3), 0}, {spans(3, 4), 1},
		{spans(0, last), last}, {spans(0, last, 0, last, 5, 6), last}, {spans(0, last+1), 0}, {spans(-1, last), 0}, {spans(9, 5), 0},
		{spans(math.MinInt, math.MaxInt, 1, 2), 1}, {spans(0, 10, 5, 15, 20, 21), 16},
	} {
		if got := Length(c.l); got != c.want {
			t.Error(i, c.l, "has", got, "want", c.want)
		}
	}
}

func TestMinus(t *testing.T) {
	for i, c := range []struct{ a, b, want list }{
		{spans(0, 100), spans(10, 20, 90, 200), spans(0, 10, 20, 90)},
		{spans(0, 10, 10, 20), nil, spans(0, 20)}, {spans(10, 20, 0, 12), spans(5, 5, 9, 3, -5, 15, 5, last+1), spans(0, 20)},
		{spans(0, 10), spans(0, 10), nil}, {spans(3, 5), spans(0, last), nil}, {nil, spans(0, 10), nil}, {nil, nil, nil}, {spans(7, 7, 9, 3, -1, 4), nil, nil},
		// One interval takes times from several ones, and several ones from one.
		{spans(0, 10, 15, 20), spans(8, 16, 18, 17), spans(0, 8, 16, 20)},
		{spans(0, 5, 10, 15, 20, 25), spans(3, 22), spans(0, 3, 22, 25)}, {spans(0, 5, 10, 15, 20, 25), spans(0, 20), spans(20, 25)},
		{spans(0, 30), spans(0, 5, 25, 30, 10, 15), spans(5, 10, 15, 25)},
		// What only touches takes nothing.
		{spans(10, 20), spans(0, 10, 20, 30), spans(10, 20)}, {spans(10, 20, 30, 40), spans(20, 30, 40, 41), spans(10, 20, 30, 40)},
		{spans(5, last), spans(0, 6), spans(6, last)}, {spans(0, last), spans(0, last-1), spans(last-1, last)}, {spans(0, last), spans(1, last), spans(0, 1)},
		{spans(0, 10), spans(math.MinInt, math.MaxInt), spans(0, 10)},
	} {
		if got := Minus(c.a, c.b); !slices.Equal(got, c.want) {
			t.Error(i, c.a, "minus", c.b, "is", got, "want", c.want)
		}
	}
}

// withRoom returns a copy of l in front of two elements that a function must not touch either.
func withRoom(l list) (short, whole list) {
	whole = append(slices.Clone(l), api.Interval{From: -7, To: -7}, api.Interval{From: -8, To: -8})
	return whole[:len(l)], whole
}

// spoil writes over a result and behind it.
func spoil(l list) {
	l = l[:cap(l)]
	for i := range l {
		l[i] = api.Interval{From: -9, To: -9}
	}
}

func TestSetsShareNothing(t *testing.T) {
	r := source()
	for range 3000 {
		a, wholeA := withRoom(anyList(r, 5, 10))
		b, wholeB := withRoom(Merge(anyList(r, 5, 10)))
		beforeA, beforeB := slices.Clone(wholeA), slices.Clone(wholeB)
		Cover(a, 12)
		Length(a)
		for _, result := range []list{Merge(a), Merge(b), Minus(a, b), Minus(b, a), Minus(a, nil), Minus(b, nil), Minus(nil, b)} {
			spoil(result)
		}
		if !slices.Equal(wholeA, beforeA) || !slices.Equal(wholeB, beforeB) {
			t.Fatal(beforeA, "became", wholeA, "or", beforeB, "became", wholeB)
		}
	}
}
