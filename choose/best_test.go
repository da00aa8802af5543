package choose

import (
	"math"
	"slices"
	"testing"

	"skiarea/api"
)

// askBest compares Best with the choice that is wanted.
func askBest(t *testing.T, l []api.Item, a, b int, want ...int) {
	t.Helper()
	if best, e := Best(l, a, b); !slices.Equal(best, want) || e != api.OK {
		t.Errorf("%v with %v and %v: %v, %v, want %v", l, a, b, best, e, want)
	}
}

// P7.4
func TestBestExamples(t *testing.T) {
	l := example()
	askBest(t, l, 6, 3, 0, 1)
	askBest(t, l, 6, 2, 0)
	askBest(t, l, 5, 3, 0, 1)
	askBest(t, l, 4, 3, 0)
	askBest(t, l, 5, 2, 0)
	askBest(t, l, 7, 2, 0, 2)
	askBest(t, l, 7, 3, 0, 2)
	askBest(t, l, 9, 4, 0, 1, 2)
	askBest(t, l, 8, 4, 0, 2)
	askBest(t, l, 9, 3, 0, 2)
	askBest(t, l, 9, 1, 0)
	askBest(t, l, 2, 9, 1)
	askBest(t, l, 2, 2, 1)
	askBest(t, l, 2, 1)
	askBest(t, l, 1, 9)
	askBest(t, l, 9, 0)
	askBest(t, l, 0, 0)
	askBest(t, nil, 5, 5)
	askBest(t, nil, -1, 5)
	askBest(t, []api.Item{}, math.MaxInt, math.MaxInt)
	askBest(t, items(3, 1, 10, 3, 1, 10), 3, 1, 0)
	askBest(t, items(3, 1, 10, 3, 1, 10), 5, 2, 0)
	askBest(t, items(3, 1, 10, 3, 1, 10), 6, 2, 0, 1)
	// The first and the second item are worth more than the third one for what they need, but leave room that nothing can use.
	askBest(t, items(6, 6, 60, 5, 5, 49, 5, 5, 49), 10, 10, 1, 2)
	askBest(t, items(10, 0, 10, 0, 10, 10, 5, 5, 11, 5, 5, 11), 10, 10, 2, 3)
}

// P7.4: the least, the greatest and other limits. With a limit below 0 no choice fits, also not of items that need nothing.
func TestBestLimits(t *testing.T) {
	l, free := example(), items(0, 0, 5, 0, 0, 0, 0, 0, 7)
	for _, below := range []int{-1, -2, -billion, math.MinInt, math.MinInt + 1} {
		for _, other := range []int{math.MinInt, -1, 0, 1, 5, 9, math.MaxInt} {
			for _, l := range [][]api.Item{l, free, nil, equalItems(12, 0, 0, billion), equalItems(12, billion, billion, billion)} {
				askBest(t, l, below, other)
				askBest(t, l, other, below)
			}
		}
	}
	for _, great := range []int{9, 12 * billion, 1 << 32, math.MaxInt - 1, math.MaxInt} {
		askBest(t, l, great, great, 0, 1, 2)
		askBest(t, l, 6, great, 0, 1)
		askBest(t, l, great, 2, 0, 2)
		askBest(t, free, great, 0, 0, 1, 2)
		askBest(t, free, 0, great, 0, 1, 2)
		askBest(t, l, 0, great)
		askBest(t, l, great, 0)
	}
	askBest(t, free, 0, 0, 0, 1, 2)
	// Of items of the same value, only so many fit: by the first resource, and by the second one.
	for n := range 13 {
		for _, less := range []int{0, 1, billion - 1} {
			fit := n
			if less > 0 {
				fit = max(n-1, 0)
			}
			l := equalItems(12, billion, billion, billion)
			askBest(t, l, n*billion-min(less, n*less), 12*billion, upTo(fit)...)
			askBest(t, l, 12*billion, n*billion-min(less, n*less), upTo(fit)...)
			askBest(t, l[:n], math.MaxInt, math.MaxInt, upTo(n)...)
		}
	}
}

// P7.4: items that are worth nothing are chosen only where the choice becomes less by them.
func TestBestWithItemsOfNoValue(t *testing.T) {
	askBest(t, items(1, 1, 0, 1, 1, 5), 2, 2, 0, 1)
	askBest(t, items(1, 1, 0, 1, 1, 5), 1, 2, 1)
	askBest(t, items(1, 1, 0, 1, 1, 5), 2, 1, 1)
	askBest(t, items(1, 1, 5, 1, 1, 0), 2, 2, 0)
	askBest(t, items(0, 0, 5, 0, 0, 0), 0, 0, 0)
	askBest(t, items(0, 0, 0, 0, 0, 5), 0, 0, 0, 1)
	askBest(t, items(1, 1, 0), 2, 2)
	askBest(t, items(0, 0, 0), 0, 0)
	askBest(t, equalItems(12, 0, 0, 0), 5, 5)
	askBest(t, append(equalItems(11, 0, 0, 0), api.Item{Value: 1}), 0, 0, upTo(12)...)
	askBest(t, append(items(0, 0, 1), equalItems(11, 0, 0, 0)...), 0, 0, 0)
	// Before, between and behind the others: the last one is not chosen.
	l := items(1, 1, 0, 1, 1, 5, 1, 1, 0, 1, 1, 5, 1, 1, 0)
	askBest(t, l, 5, 5, 0, 1, 2, 3)
	askBest(t, l, 4, 4, 0, 1, 2, 3)
	askBest(t, l, 3, 4, 0, 1, 3)
	askBest(t, l, 4, 3, 0, 1, 3)
	askBest(t, l, 2, 2, 1, 3)
	askBest(t, l, 1, 1, 1)
	askBest(t, l, 0, 1)
	// Only the second of two items of no value fits beside what is worth something.
	askBest(t, items(3, 3, 0, 1, 1, 0, 2, 2, 5), 3, 3, 1, 2)
	askBest(t, items(3, 3, 0, 1, 1, 0, 2, 2, 5), 5, 5, 0, 2)
	askBest(t, items(3, 3, 0, 1, 1, 0, 2, 2, 5), 6, 6, 0, 1, 2)
}

// P7.4: several choices are worth the same.
func TestBestOfTheSameValue(t *testing.T) {
	// 0 and 1 are worth what 2 is: 0, 1 precedes 2, also where it needs more, and as a longer choice.
	askBest(t, items(2, 2, 3, 2, 2, 4, 4, 4, 7), 4, 4, 0, 1)
	askBest(t, items(2, 2, 3, 2, 2, 4, 3, 3, 7), 4, 4, 0, 1)
	askBest(t, items(2, 2, 3, 2, 2, 4, 4, 4, 8), 4, 4, 2)
	askBest(t, items(2, 2, 3, 2, 2, 4, 1, 1, 7), 4, 4, 1, 2)
	askBest(t, items(4, 4, 7, 2, 2, 3, 2, 2, 4), 4, 4, 0)
	askBest(t, items(2, 2, 3, 4, 4, 7, 2, 2, 4), 4, 4, 0, 2)
	askBest(t, items(2, 2, 3, 1, 1, 7, 2, 2, 4), 2, 2, 1)
	// 0, 3 is worth what 1, 2 is, and nothing else that is worth as much fits.
	askBest(t, items(1, 0, 1, 2, 0, 2, 2, 0, 3, 3, 0, 4), 4, 0, 0, 3)
	askBest(t, items(0, 1, 1, 0, 2, 2, 0, 2, 3, 0, 3, 4), 0, 4, 0, 3)
	askBest(t, items(1, 0, 1, 2, 0, 3, 2, 0, 3, 3, 0, 4), 4, 0, 1, 2)
	// 0, 3 and 1, 2 again, by one resource and by both.
	askBest(t, items(1, 3, 5, 2, 2, 5, 2, 2, 5, 3, 1, 5), 4, 4, 0, 3)
	askBest(t, items(1, 3, 5, 2, 2, 5, 2, 2, 5, 3, 1, 5), 4, 5, 0, 1)
	askBest(t, items(1, 3, 5, 2, 2, 5, 2, 2, 5, 3, 1, 5), 3, 4, 0)
	askBest(t, items(1, 3, 5, 2, 2, 5, 2, 2, 5, 3, 1, 5), 3, 5, 0, 1)
	// The choice 0 is worth what 0, 1 is, and 1, 2 too: the one that the others begin with comes first.
	askBest(t, items(1, 1, 5, 1, 1, 0, 1, 1, 5), 1, 1, 0)
	askBest(t, items(1, 1, 5, 0, 0, 0, 1, 1, 5), 1, 1, 0)
	askBest(t, items(0, 0, 0, 1, 1, 5, 1, 1, 5), 1, 1, 0, 1)
	// Six of 12 equal items: the first six.
	askBest(t, equalItems(12, 1, 1, 1), 6, 12, upTo(6)...)
	askBest(t, equalItems(12, 1, 1, 1), 12, 6, upTo(6)...)
	askBest(t, equalItems(12, 0, 0, 1), 0, 0, upTo(12)...)
	// All choices of four items with two for each resource are worth the same.
	askBest(t, items(2, 0, 1, 0, 2, 1, 2, 0, 1, 0, 2, 1), 2, 2, 0, 1)
	askBest(t, items(2, 0, 1, 2, 0, 1, 0, 2, 1, 0, 2, 1), 2, 2, 0, 2)
	askBest(t, items(2, 0, 1, 2, 0, 1, 0, 2, 1, 0, 2, 1), 4, 2, 0, 1, 2)
}

// P7.4, by a search through all choices: all lists of up to two items with numbers from 0 to 2, with all limits from -1 to their sums.
func TestBestOfSmallLists(t *testing.T) {
	for n := range 3 {
		all := choices(n)
		lists := 1
		for range n {
			lists *= 27
		}
		for list := range lists {
			var l []api.Item
			for rest := list; len(l) < n; rest /= 27 {
				l = append(l, api.Item{A: rest / 9 % 3, B: rest / 3 % 3, Value: rest % 3})
			}
			total := sums(l, upTo(n))
			for a := -1; a <= total.A; a++ {
				for b := -1; b <= total.B; b++ {
					askBest(t, l, a, b, plainBest(l, a, b, all)...)
				}
			}
		}
	}
	// Three items that need 0 or 1, and are worth 0 to 2.
	all := choices(3)
	for list := range 12 * 12 * 12 {
		var l []api.Item
		for rest := list; len(l) < 3; rest /= 12 {
			l = append(l, api.Item{A: rest / 6 % 2, B: rest / 3 % 2, Value: rest % 3})
		}
		for limits := range 16 {
			askBest(t, l, limits/4, limits%4, plainBest(l, limits/4, limits%4, all)...)
		}
	}
}

// P7.4 and P7.5, by a search through all choices of up to 12 items.
func TestBestOfAnyItems(t *testing.T) {
	all := make([][][]int, maxItems+1)
	for n := range all {
		all[n] = choices(n)
	}
	several := 0
	anyItems(source(), 3000, func(l []api.Item, a, b int) {
		best, e := Best(l, a, b)
		if want := plainBest(l, a, b, all[len(l)]); !slices.Equal(best, want) || e != api.OK {
			t.Fatalf("%v with %v and %v: %v, %v, want %v", l, a, b, best, e, want)
		}
		_, _, most, ok := Need(l, best)
		if !ok || Fits(l, best, a, b) != (a >= 0 && b >= 0) {
			t.Fatalf("%v with %v and %v: %v does not fit", l, a, b, best)
		}
		others := 0
		for _, chosen := range all[len(l)] {
			if !Fits(l, chosen, a, b) {
				continue
			}
			_, _, value, _ := Need(l, chosen)
			if value > most || value == most && slices.Compare(chosen, best) < 0 {
				t.Fatalf("%v with %v and %v: %v is better than %v", l, a, b, chosen, best)
			}
			if value == most {
				others++
			}
		}
		if others > 1 && len(best) > 0 {
			several++
		}
	})
	if several < 500 {
		t.Error("only", several, "lists have several choices that are worth the most")
	}
}

// worthOf is the value of Best.
func worthOf(t *testing.T, l []api.Item, a, b int) int {
	t.Helper()
	best, e := Best(l, a, b)
	_, _, value, ok := Need(l, best)
	if e != api.OK || !ok {
		t.Fatalf("%v with %v and %v: %v, %v", l, a, b, best, e)
	}
	return value
}

// P7.6: greater limits.
func TestGreaterLimits(t *testing.T) {
	r := source()
	more := 0
	anyItems(r, 1500, func(l []api.Item, a, b int) {
		before := worthOf(t, l, a, b)
		widerA, widerB := a, b
		if r.IntN(3) > 0 && a < 20*billion {
			widerA += r.IntN(1 + max(a, 1))
		}
		if r.IntN(3) > 0 && b < 20*billion {
			widerB += r.IntN(1 + max(b, 1))
		}
		if after := worthOf(t, l, widerA, widerB); after < before {
			t.Fatalf("%v with %v and %v: %v, with %v and %v: %v", l, a, b, before, widerA, widerB, after)
		} else if after > before {
			more++
		}
	})
	if more < 100 {
		t.Error("only", more, "choices are worth more with greater limits")
	}
}

// P7.6: another item at the end.
func TestAnotherItem(t *testing.T) {
	r := source()
	more := 0
	anyItems(r, 1500, func(l []api.Item, a, b int) {
		if len(l) == 0 {
			return
		}
		shorter, last := l[:len(l)-1], l[len(l)-1]
		before, after := worthOf(t, shorter, a, b), worthOf(t, l, a, b)
		if after < before || after > before+last.Value {
			t.Fatalf("%v with %v and %v: %v, and with %v: %v", shorter, a, b, before, last, after)
		}
		if after > before {
			more++
		}
	})
	if more < 200 {
		t.Error("only", more, "choices are worth more with another item")
	}
}

// P7.7: the same items are chosen without an item that was not.
func TestWithoutAnotherItem(t *testing.T) {
	left := 0
	anyItems(source(), 1500, func(l []api.Item, a, b int) {
		best, e := Best(l, a, b)
		for i := range l {
			if e != api.OK || slices.Contains(best, i) {
				continue
			}
			var want []int
			for _, j := range best {
				if j > i {
					j--
				}
				want = append(want, j)
			}
			left++
			if got, e := Best(slices.Delete(slices.Clone(l), i, i+1), a, b); !slices.Equal(got, want) || e != api.OK {
				t.Fatalf("%v with %v and %v: %v, and without %v: %v, %v", l, a, b, best, i, got, e)
			}
		}
	})
	if left < 2000 {
		t.Error("only", left, "items were left out")
	}
}

// P7.4: each of all choices of 12 items is the best one for some items: those that it contains are worth something, and the others need too much.
func TestBestIsAnyChoice(t *testing.T) {
	for _, chosen := range choices(12) {
		l := equalItems(12, billion, 1, billion)
		for _, i := range chosen {
			l[i] = api.Item{A: 1, B: 1, Value: 1}
		}
		askBest(t, l, len(chosen), 12, chosen...)
	}
}
