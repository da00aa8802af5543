package choose

import (
	"math"
	"slices"
	"testing"

	"skiarea/api"
)

// P7.1
func TestRight(t *testing.T) {
	edges := items(0, 0, 0, 1, 1, 1, billion, billion, billion, 0, billion, 1, billion, 1, 0, 1, 0, billion)
	for _, l := range [][]api.Item{nil, {}, example(), edges, make([]api.Item, 1), make([]api.Item, 12), equalItems(12, billion, billion, billion)} {
		if e := Right(l); e != api.OK {
			t.Errorf("%v: %v", l, e)
		}
	}
	for _, n := range []int{13, 14, 24, 64, 100000} {
		if e := Right(make([]api.Item, n)); e != api.ErrLong {
			t.Errorf("%v items: %v", n, e)
		}
	}
}

// P7.1: each of the three numbers of each of up to 12 items. With 13 items, the number does not matter.
func TestRightOfOneNumber(t *testing.T) {
	for number, e := range map[int]api.Errno{0: api.OK, 1: api.OK, 999999999: api.OK, billion: api.OK, -1: api.ErrRange, -billion: api.ErrRange, billion + 1: api.ErrRange, 1<<32 + 1: api.ErrRange, -1 << 32: api.ErrRange, math.MinInt: api.ErrRange, math.MinInt + 1: api.ErrRange, math.MaxInt: api.ErrRange} {
		for n := 1; n <= 13; n++ {
			if n == 13 {
				e = api.ErrLong
			}
			for i := range n {
				for field := range 3 {
					l := equalItems(n, 5, 6, 7)
					*[]*int{&l[i].A, &l[i].B, &l[i].Value}[field] = number
					if got := Right(l); got != e {
						t.Errorf("%v of %v items has %v as its number %v: %v, want %v", i, n, number, field, got, e)
					}
					if best, got := Best(l, 30, 30); got != e || e != api.OK && len(best) > 0 {
						t.Errorf("%v of %v items has %v as its number %v: Best is %v, %v, want %v", i, n, number, field, best, got, e)
					}
				}
			}
		}
	}
}

// P7.2 and P7.3
func TestNeedExamples(t *testing.T) {
	twelve := equalItems(12, billion, billion-1, billion-2)
	for _, c := range []struct {
		l      []api.Item
		chosen []int
		want   api.Item
		ok     bool
	}{
		{example(), []int{0, 2}, api.Item{A: 7, B: 2, Value: 19}, true}, {example(), []int{0, 1}, api.Item{A: 5, B: 3, Value: 17}, true}, {example(), []int{1, 2}, api.Item{A: 6, B: 3, Value: 16}, true}, {example(), []int{0, 1, 2}, api.Item{A: 9, B: 4, Value: 26}, true},
		{example(), []int{0}, api.Item{A: 3, B: 1, Value: 10}, true}, {example(), []int{1}, api.Item{A: 2, B: 2, Value: 7}, true}, {example(), []int{2}, api.Item{A: 4, B: 1, Value: 9}, true}, {example(), nil, api.Item{}, true}, {example(), []int{}, api.Item{}, true},
		{example(), []int{2, 0}, api.Item{}, false}, {example(), []int{1, 0}, api.Item{}, false}, {example(), []int{0, 2, 1}, api.Item{}, false}, {example(), []int{1, 2, 0}, api.Item{}, false}, {example(), []int{0, 0}, api.Item{}, false}, {example(), []int{2, 2}, api.Item{}, false}, {example(), []int{0, 1, 1}, api.Item{}, false}, {example(), []int{0, 1, 2, 2}, api.Item{}, false}, {example(), []int{0, 1, 0}, api.Item{}, false},
		{example(), []int{3}, api.Item{}, false}, {example(), []int{0, 1, 2, 3}, api.Item{}, false}, {example(), []int{0, 3}, api.Item{}, false}, {example(), []int{-1}, api.Item{}, false}, {example(), []int{-1, 0, 1}, api.Item{}, false}, {example(), []int{0, -1}, api.Item{}, false}, {example(), []int{0, 1, 2, -3}, api.Item{}, false},
		{example(), []int{math.MinInt}, api.Item{}, false}, {example(), []int{math.MaxInt}, api.Item{}, false}, {example(), []int{math.MinInt, 0}, api.Item{}, false}, {example(), []int{0, math.MaxInt}, api.Item{}, false}, {example(), []int{math.MaxInt, math.MinInt}, api.Item{}, false}, {example(), []int{0, math.MinInt}, api.Item{}, false}, {example(), []int{1 << 32}, api.Item{}, false}, {example(), []int{0, 1<<32 + 1}, api.Item{}, false}, {example(), []int{1 - 1<<32}, api.Item{}, false},
		{example(), upTo(12), api.Item{}, false}, {example(), upTo(100000), api.Item{}, false}, {example(), make([]int, 100000), api.Item{}, false},
		{nil, nil, api.Item{}, true}, {nil, []int{}, api.Item{}, true}, {[]api.Item{}, nil, api.Item{}, true}, {nil, []int{0}, api.Item{}, false}, {nil, []int{-1}, api.Item{}, false}, {nil, []int{math.MaxInt}, api.Item{}, false}, {nil, []int{math.MinInt}, api.Item{}, false},
		{twelve, upTo(12), api.Item{A: 12 * billion, B: 12*billion - 12, Value: 12*billion - 24}, true}, {twelve, []int{11}, twelve[0], true}, {twelve, []int{0, 11}, api.Item{A: 2 * billion, B: 2*billion - 2, Value: 2*billion - 4}, true}, {twelve, []int{12}, api.Item{}, false}, {twelve, upTo(13), api.Item{}, false}, {twelve, upTo(13)[1:], api.Item{}, false},
		{make([]api.Item, 12), upTo(12), api.Item{}, true},
	} {
		checkNeed(t, c.l, c.chosen, c.want, c.ok)
	}
}

// checkNeed compares Need, and Fits at the sums and one below them, with what is wanted.
func checkNeed(t *testing.T, l []api.Item, chosen []int, want api.Item, ok bool) {
	t.Helper()
	a, b, value, accepted := Need(l, chosen)
	if (api.Item{A: a, B: b, Value: value}) != want || accepted != ok {
		t.Fatalf("%v: Need of %v is %v, %v, %v, %v, want %v, %v", l, chosen, a, b, value, accepted, want, ok)
	}
	for _, c := range []struct {
		a, b int
		fits bool
	}{
		{want.A, want.B, true}, {want.A - 1, want.B, false}, {want.A, want.B - 1, false}, {want.A - 1, want.B - 1, false}, {want.A + 1, want.B + 1, true},
		{want.A - 1, math.MaxInt, false}, {math.MaxInt, want.B - 1, false}, {want.A, math.MaxInt, true}, {math.MaxInt, want.B, true}, {math.MaxInt, math.MaxInt, true},
		{math.MinInt, math.MaxInt, false}, {math.MaxInt, math.MinInt, false}, {math.MinInt, math.MinInt, false}, {-1, want.B, false}, {want.A, -1, false}, {-1, math.MaxInt, false}, {math.MaxInt, -1, false}, {want.A - 1<<32, want.B, false}, {want.A, want.B - 1<<32, false}, {want.A + 1<<32, want.B + 1<<32, true},
	} {
		if got := Fits(l, chosen, c.a, c.b); got != (ok && c.fits) {
			t.Fatalf("%v: Fits of %v with %v and %v is %v", l, chosen, c.a, c.b, got)
		}
	}
}

// P7.3: the limits 0 and below.
func TestFitsAtZero(t *testing.T) {
	free, first, second := items(0, 0, 5), items(0, 1, 5), items(1, 0, 5)
	for _, c := range []struct {
		l      []api.Item
		chosen []int
		a, b   int
		fits   bool
	}{
		{example(), nil, 0, 0, true}, {example(), nil, 0, -1, false}, {example(), nil, -1, 0, false}, {nil, nil, 0, 0, true}, {nil, nil, -1, -1, false}, {nil, nil, math.MinInt, 0, false}, {nil, []int{0}, 5, 5, false},
		{free, []int{0}, 0, 0, true}, {free, []int{0}, -1, 0, false}, {free, []int{0}, 0, -1, false}, {first, []int{0}, 0, 0, false}, {first, []int{0}, 0, 1, true}, {first, []int{0}, 1, 0, false}, {second, []int{0}, 0, 0, false}, {second, []int{0}, 0, 1, false}, {second, []int{0}, 1, 0, true},
	} {
		if got := Fits(c.l, c.chosen, c.a, c.b); got != c.fits {
			t.Errorf("%v: Fits of %v with %v and %v is %v", c.l, c.chosen, c.a, c.b, got)
		}
	}
}

// P7.2 and P7.3, by the words of the chapter: all lists of up to five indices, with some that do not exist.
func TestNeedOfAllLists(t *testing.T) {
	r := source()
	for n := range 5 {
		l := randomItems(r, n)
		lists := [][]int{{}}
		for start := 0; start < len(lists); start++ {
			chosen := lists[start]
			want, ok := api.Item{}, accepted(l, chosen)
			if ok {
				want = sums(l, chosen)
			}
			checkNeed(t, l, chosen, want, ok)
			for i := -1; i <= n && len(chosen) < 5; i++ {
				lists = append(lists, append(slices.Clone(chosen), i))
			}
		}
	}
}

// P7.2: each choice of 12 items.
func TestNeedOfAllChoices(t *testing.T) {
	l := make([]api.Item, 12)
	for i := range l {
		l[i] = api.Item{A: 1 << i, B: billion - i, Value: 1 << (11 - i)}
	}
	for _, chosen := range choices(12) {
		checkNeed(t, l, chosen, sums(l, chosen), true)
	}
}
