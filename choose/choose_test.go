package choose

import (
	"math"
	"math/rand/v2"
	"slices"
	"testing"

	"skiarea/api"
)

const billion = 1000000000

func source() *rand.Rand { return rand.New(rand.NewPCG(7, 7)) }

// items makes items of triples: A, B, Value.
func items(triples ...int) []api.Item {
	var l []api.Item
	for i := 0; i < len(triples); i += 3 {
		l = append(l, api.Item{A: triples[i], B: triples[i+1], Value: triples[i+2]})
	}
	return l
}

// example is the items of the chapter's examples.
func example() []api.Item { return items(3, 1, 10, 2, 2, 7, 4, 1, 9) }

// equalItems is n items that are equal.
func equalItems(n, a, b, value int) []api.Item {
	return slices.Repeat(items(a, b, value), n)
}

func upTo(n int) []int {
	l := make([]int, n)
	for i := range l {
		l[i] = i
	}
	return l
}

// accepted says by the words of the chapter whether the indices are strictly increasing and all exist.
func accepted(l []api.Item, chosen []int) bool {
	for k, i := range chosen {
		if i < 0 || i >= len(l) || k > 0 && chosen[k-1] >= i {
			return false
		}
	}
	return true
}

// sums is the sums of A, B and Value over the choice.
func sums(l []api.Item, chosen []int) (sum api.Item) {
	for _, i := range chosen {
		sum = api.Item{A: sum.A + l[i].A, B: sum.B + l[i].B, Value: sum.Value + l[i].Value}
	}
	return sum
}

// choices returns all choices of n items, in an order that is not the lexicographic one.
func choices(n int) [][]int {
	var all [][]int
	for set := range 1 << n {
		chosen := []int{}
		for i := range n {
			if set>>i&1 == 1 {
				chosen = append(chosen, i)
			}
		}
		all = append(all, chosen)
	}
	return all
}

// plainBest looks at all choices. The order of slices.Compare is that of the chapter.
func plainBest(l []api.Item, a, b int, all [][]int) []int {
	best, most := []int(nil), -1
	for _, chosen := range all {
		sum := sums(l, chosen)
		if sum.A > a || sum.B > b || sum.Value < most {
			continue
		}
		if sum.Value > most || slices.Compare(chosen, best) < 0 {
			best, most = chosen, sum.Value
		}
	}
	return best
}

// randomItems is n items with numbers below some bound, or with the greatest ones, so that there are often choices of the same value, and items that need nothing or are worth nothing.
func randomItems(r *rand.Rand, n int) []api.Item {
	bounds := []int{1, 2, 3, 6, 40, billion + 1}
	pick := func() func() int {
		bound := bounds[r.IntN(len(bounds))]
		return func() int { return r.IntN(bound) }
	}
	a, b, value := pick(), pick(), pick()
	l := make([]api.Item, n)
	for i := range l {
		switch l[i] = (api.Item{A: a(), B: b(), Value: value()}); r.IntN(6) {
		case 0:
			l[i].Value = 0
		case 1:
			l[i] = l[r.IntN(i+1)]
		}
	}
	return l
}

// randomLimit is often a sum of items, or one less, sometimes any number.
func randomLimit(r *rand.Rand, sum int) int {
	switch r.IntN(8) {
	case 0:
		return []int{math.MinInt, -1, 0, math.MaxInt, 12 * billion}[r.IntN(5)]
	case 1, 2:
		return sum - 1
	case 3, 4:
		return r.IntN(2*sum + 2)
	}
	return sum
}

// randomLimits is limits near what some choice needs.
func randomLimits(r *rand.Rand, l []api.Item) (a, b int) {
	sum := api.Item{}
	for _, item := range l {
		if r.IntN(2) == 0 {
			sum = api.Item{A: sum.A + item.A, B: sum.B + item.B}
		}
	}
	return randomLimit(r, sum.A), randomLimit(r, sum.B)
}

// anyItems calls f with n lists of up to 12 items, and limits for them.
func anyItems(r *rand.Rand, n int, f func(l []api.Item, a, b int)) {
	for range n {
		l := randomItems(r, r.IntN(maxItems+1))
		a, b := randomLimits(r, l)
		f(l, a, b)
	}
}

// roomy returns a copy of l in which marks stand behind the elements, within its capacity.
func roomy[T any](l []T, mark T) []T {
	return append(slices.Clone(l), mark, mark, mark)[:len(l)]
}

var markItem = api.Item{A: -77, B: -77, Value: -77}

const markNumber = -77

// unchanged calls f with copies of l and list, and checks that f changed neither them nor the room behind them.
func unchanged(t *testing.T, l []api.Item, list []int, f func(l []api.Item, list []int)) {
	t.Helper()
	copied, numbers := roomy(l, markItem), roomy(list, markNumber)
	f(copied, numbers)
	all, whole := copied[:len(l)+3], numbers[:len(list)+3]
	if !slices.Equal(all, append(slices.Clone(l), markItem, markItem, markItem)) || !slices.Equal(whole, append(slices.Clone(list), markNumber, markNumber, markNumber)) {
		t.Fatalf("%v and %v are %v and %v", l, list, all, whole)
	}
}

// P7.1 to P7.4: no argument is changed, and no result shares memory with one or with another result.
func TestArgumentsAndResults(t *testing.T) {
	r := source()
	anyItems(r, 500, func(l []api.Item, a, b int) {
		list := make([]int, r.IntN(14))
		for i := range list {
			list[i] = i + r.IntN(3) - 1
		}
		unchanged(t, l, list, func(l []api.Item, list []int) {
			Right(l)
			Need(l, list)
			Fits(l, list, a, b)
			first, _ := Best(l, a, b)
			kept := slices.Clone(first)
			for i := range first[:cap(first)] {
				first[:cap(first)][i] = markNumber
			}
			second, _ := Best(l, a, b)
			if !slices.Equal(second, kept) {
				t.Fatalf("%v, %v, %v: %v, then %v", l, a, b, kept, second)
			}
			before := slices.Clone(l)
			for i := range l {
				l[i] = api.Item{A: l[i].B, B: l[i].Value, Value: l[i].A}
			}
			Best(l, b, a)
			if !slices.Equal(second, kept) {
				t.Fatalf("%v, %v, %v: %v became %v", before, a, b, kept, second)
			}
			copy(l, before)
		})
	})
}

// No function panics, also for items for which the chapter does not define it.
func TestItemsThatAreNotRight(t *testing.T) {
	r := source()
	numbers := []int{math.MinInt, math.MinInt + 1, -billion, -1, 0, 1, 2, billion, billion + 1, 1 << 62, math.MaxInt}
	pick := func() int { return numbers[r.IntN(len(numbers))] }
	for range 5000 {
		l := make([]api.Item, r.IntN(40))
		for i := range l {
			l[i] = api.Item{A: pick(), B: pick(), Value: pick()}
		}
		list := make([]int, r.IntN(40))
		for i := range list {
			if list[i] = i; r.IntN(30) == 0 {
				list[i] = pick()
			}
		}
		if a, b, value, ok := Need(l, list); ok != accepted(l, list) || !ok && (a != 0 || b != 0 || value != 0) {
			t.Fatalf("%v: %v: %v, %v, %v, %v", l, list, a, b, value, ok)
		}
		if Fits(l, list, pick(), pick()) && !accepted(l, list) {
			t.Fatalf("%v: %v fits", l, list)
		}
		if best, e := Best(l, pick(), pick()); e != Right(l) || e != api.OK && len(best) > 0 {
			t.Fatalf("%v: %v, %v", l, best, e)
		}
	}
}
