package assign

import (
	"math"
	"slices"
	"testing"

	"skiarea/api"
)

// errorOf says by the words of the chapter what Right returns.
func errorOf(m [][]int) api.Errno {
	long, form, out := len(m) > 8, false, false
	for i, row := range m {
		long = long || len(row) > 8
		form = form || len(row) < len(m) || i > 0 && len(m[i-1]) != len(row)
		out = out || len(row) > 0 && (slices.Min(row) < 0 || slices.Max(row) > million)
	}
	switch {
	case long:
		return api.ErrLong
	case form:
		return api.ErrForm
	case out:
		return api.ErrRange
	}
	return api.OK
}

// checkRight compares Right and the error of Best with what is wanted.
func checkRight(t *testing.T, m [][]int, want api.Errno) {
	t.Helper()
	if e := Right(m); e != want {
		t.Fatalf("%v: Right is %v, want %v", m, e, want)
	}
	if p, n, e := Best(m); e != want || e == api.OK && len(p) != len(m) || e != api.OK && (len(p) > 0 || n != 0) {
		t.Fatalf("%v: Best is %v, %v, %v, want %v", m, p, n, e, want)
	}
}

// P8.1
func TestRight(t *testing.T) {
	for _, c := range []struct {
		m    [][]int
		want api.Errno
	}{
		{nil, api.OK}, {[][]int{}, api.OK}, {example(), api.OK}, {matrix(1, 0), api.OK}, {matrix(2, 0, million), api.OK}, {filled(8, 8, million), api.OK}, {filled(8, 8, 0), api.OK}, {filled(1, 8, 1), api.OK}, {filled(7, 8, 1), api.OK},
		{[][]int{nil}, api.ErrForm}, {[][]int{{}}, api.ErrForm}, {[][]int{{}, {}}, api.ErrForm}, {[][]int{{}, {1}}, api.ErrForm}, {[][]int{{1}, nil}, api.ErrForm}, {make([][]int, 8), api.ErrForm}, {make([][]int, 9), api.ErrLong}, {make([][]int, 100000), api.ErrLong}, {[][]int{make([]int, 100000)}, api.ErrLong},
		{filled(9, 9, 1), api.ErrLong}, {filled(9, 8, 1), api.ErrLong}, {filled(8, 9, 1), api.ErrLong}, {filled(1, 9, 1), api.ErrLong}, {filled(8, 7, 1), api.ErrForm}, {filled(2, 1, 1), api.ErrForm}, {filled(8, 1, 1), api.ErrForm},
		{[][]int{{1, 2, 3}, {1, 2}}, api.ErrForm}, {[][]int{{1, 2}, {1, 2, 3}}, api.ErrForm}, {[][]int{{1, 2, 3, 4}, {1, 2, 3}, {1, 2, 3, 4}}, api.ErrForm}, {[][]int{{1, 2, 3}, {1, 2, 3, 4}, {1, 2, 3}}, api.ErrForm}, {[][]int{{1, 2, 3, 4}, {1, 2, 3}, {1, 2, 3}}, api.ErrForm}, {[][]int{{1, 2, 3}, {1, 2, 3}, {1, 2, 3, 4}}, api.ErrForm},
		{matrix(1, -1), api.ErrRange}, {matrix(1, million+1), api.ErrRange}, {matrix(2, 0, -1), api.ErrRange}, {matrix(1, math.MinInt), api.ErrRange}, {matrix(1, math.MaxInt), api.ErrRange},
	} {
		checkRight(t, c.m, c.want)
	}
}

// P8.1: of several errors, the first one in the promise's order is returned, wherever they are.
func TestRightOfSeveralErrors(t *testing.T) {
	for _, c := range []struct {
		m    [][]int
		want api.Errno
	}{
		{filled(9, 1, -1), api.ErrLong}, {filled(1, 9, -1), api.ErrLong}, {append(filled(8, 9, -1), nil), api.ErrLong}, {append(filled(7, 8, -1), make([]int, 9)), api.ErrLong}, {[][]int{{-1}, {}, make([]int, 9)}, api.ErrLong}, {[][]int{make([]int, 9), {}, {-1}}, api.ErrLong}, {[][]int{{}, make([]int, 9), {-1}}, api.ErrLong}, {[][]int{{1}, make([]int, 9)}, api.ErrLong},
		{[][]int{{-1}, {1}}, api.ErrForm}, {[][]int{{1}, {-1}}, api.ErrForm}, {[][]int{{-1, 1}, {1}}, api.ErrForm}, {[][]int{{1, 1}, {-1}}, api.ErrForm}, {[][]int{{-1, 1, 1}, {1, 1, 1}, {1, 1}}, api.ErrForm}, {[][]int{{1, million + 1}, {1, 1, 1}}, api.ErrForm}, {filled(8, 7, -1), api.ErrForm}, {[][]int{{-1}, nil}, api.ErrForm},
	} {
		checkRight(t, c.m, c.want)
	}
}

// P8.1: all numbers of rows and columns up to 10, and one row of another length, or one cost out of range, or both.
func TestRightOfAllSizes(t *testing.T) {
	seen := map[api.Errno]int{}
	check := func(m [][]int) {
		e := errorOf(m)
		seen[e]++
		checkRight(t, m, e)
	}
	for rows := range 11 {
		for columns := range 11 {
			check(filled(rows, columns, 5))
			for i := range rows {
				for length := range 11 {
					m := filled(rows, columns, 5)
					m[i] = make([]int, length)
					check(m)
					for j := range rows {
						if len(m[j]) > 0 {
							kept := m[j][0]
							m[j][0] = -1
							check(m)
							m[j][0] = kept
						}
					}
				}
			}
		}
	}
	if len(seen) != 4 || seen[api.OK] < 200 || seen[api.ErrRange] < 500 {
		t.Error("seen:", seen)
	}
}

// P8.1: the edges of a cost, at each place of matrices of some sizes.
func TestRightOfOneCost(t *testing.T) {
	for cost, e := range map[int]api.Errno{0: api.OK, 1: api.OK, 999999: api.OK, million: api.OK, -1: api.ErrRange, -million: api.ErrRange, million + 1: api.ErrRange, 1<<32 + 1: api.ErrRange, -1 << 32: api.ErrRange, math.MinInt: api.ErrRange, math.MinInt + 1: api.ErrRange, math.MaxInt - 1: api.ErrRange, math.MaxInt: api.ErrRange} {
		for rows := range 9 {
			for columns := max(rows, 1); columns <= 8; columns++ {
				for place := range rows * columns {
					m := filled(rows, columns, 5)
					m[place/columns][place%columns] = cost
					checkRight(t, m, e)
				}
			}
		}
	}
}
