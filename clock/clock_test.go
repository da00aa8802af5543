package clock

import (
	"fmt"
	"math"
	"math/rand/v2"
	"slices"
	"testing"

	"skiarea/api"
)

const (
	last    = api.MaxTime
	lastDay = 231
)

func source() *rand.Rand { return rand.New(rand.NewPCG(2, 10)) }

// edgeTimes are numbers at which a day, a week, the season or the ints begin or end.
func edgeTimes() []int {
	l := []int{math.MinInt, math.MinInt + 1, math.MaxInt - 1, math.MaxInt, -1 << 32, 1 << 32, 41600, lastDay * api.Day}
	for _, n := range []int{0, api.Day, -api.Day, api.Week, -api.Week, 33 * api.Week, last, last - api.Week, last - api.Day} {
		l = append(l, n-1, n, n+1)
	}
	return l
}

// numbers returns a source of numbers of all lengths, the same ones in each run, with edges often among them.
func numbers(r *rand.Rand, edges []int) func() int {
	return func() int {
		switch r.IntN(3) {
		case 0:
			return edges[r.IntN(len(edges))]
		case 1:
			return r.IntN(api.Day)
		}
		return int(r.Uint64()>>r.IntN(64)) * (1 - 2*r.IntN(2))
	}
}

func TestDaysOfSeason(t *testing.T) {
	// Three counters step through the whole season, so that no division is compared with itself.
	day, second, weekday := 0, 0, 0
	for u := range last + 1 {
		if Day(u) != day || Second(u) != second || Weekday(u) != weekday {
			t.Fatal(u, "is", Day(u), Second(u), Weekday(u), "want", day, second, weekday)
		}
		if second++; second == 86400 {
			day, second = day+1, 0
			if weekday++; weekday == 7 {
				weekday = 0
			}
		}
	}
	if day != lastDay || second != 41601 || weekday != 0 {
		t.Error("the season ends before", day, second, weekday)
	}
}

func TestDayExamples(t *testing.T) {
	for _, c := range []struct{ at, day, second, weekday int }{
		{0, 0, 0, 0}, {86399, 0, 86399, 0}, {86400, 1, 0, 1}, {90000, 1, 3600, 1}, {604799, 6, 86399, 6}, {604800, 7, 0, 0}, {last, 231, 41600, 0},
	} {
		if Day(c.at) != c.day || Second(c.at) != c.second || Weekday(c.at) != c.weekday {
			t.Error(c, Day(c.at), Second(c.at), Weekday(c.at))
		}
	}
}

func TestDayOfNoTime(t *testing.T) {
	for _, u := range edgeTimes() {
		if 0 <= u && u <= last {
			continue
		}
		if Day(u) != -1 || Second(u) != -1 || Weekday(u) != -1 {
			t.Error(u, "is", Day(u), Second(u), Weekday(u))
		}
	}
}

func TestRight(t *testing.T) {
	good := api.Hours{Days: 1, From: 0, To: 1}
	for _, h := range []api.Hours{good, {Days: 127, From: 0, To: 86400}, {Days: 64, From: 86399, To: 86400}, {Days: 5, From: 28800, To: 28801}} {
		if !Right([]api.Hours{h}) || !Right([]api.Hours{good, h}) {
			t.Error(h, "is not right")
		}
	}
	bad := []api.Hours{
		{}, {From: 0, To: 1}, {Days: 128, From: 0, To: 1}, {Days: -1, From: 0, To: 1}, {Days: 129, From: 0, To: 1}, {Days: math.MinInt, From: 0, To: 1}, {Days: math.MaxInt, From: 0, To: 1},
		{Days: 1, From: -1, To: 1}, {Days: 1, From: math.MinInt, To: 1}, {Days: 1, From: 5, To: 5}, {Days: 1, From: 6, To: 5}, {Days: 1, From: 0, To: 0}, {Days: 1, From: 86400, To: 86400},
		{Days: 1, From: 0, To: 86401}, {Days: 1, From: 86400, To: 86401}, {Days: 1, From: 0, To: math.MaxInt}, {Days: 1, From: 0, To: math.MinInt}, {Days: 1, From: math.MaxInt, To: math.MinInt},
	}
	for _, h := range bad {
		for _, l := range [][]api.Hours{{h}, {good, h}, {h, good}, {good, h, good}} {
			if Right(l) {
				t.Error(l, "is right")
			}
		}
	}
}

func TestRightLength(t *testing.T) {
	good := []api.Hours{{Days: 1, From: 0, To: 1}}
	for n := range 40 {
		if got := Right(slices.Repeat(good, n)); got != (n <= 16) {
			t.Error(n, "elements:", got)
		}
	}
	if !Right(nil) || !Right([]api.Hours{}) {
		t.Error("no element")
	}
	if Right(append(slices.Repeat(good, 15), api.Hours{Days: 1, From: 0, To: 86401})) || Right(make([]api.Hours, 17)) {
		t.Error("a late element, or 17 of them")
	}
}

// bitOf reads the bit w of n in the text of its two's complement.
func bitOf(n, w int) bool {
	text := fmt.Sprintf("%064b", uint64(n))
	return text[63-w] == '1'
}

// isOpen is the definition of In with the calendar's own numbers.
func isOpen(l []api.Hours, day, second int) bool {
	return slices.ContainsFunc(l, func(h api.Hours) bool {
		return bitOf(h.Days, day%7) && h.From <= second && second < h.To
	})
}

func TestInExamples(t *testing.T) {
	l := []api.Hours{{Days: 3, From: 28800, To: 57600}}
	for at, want := range map[int]bool{
		28799: false, 28800: true, 57599: true, 57600: false, 115199: false, 115200: true, 143999: true, 144000: false, 201600: false, 633599: false, 633600: true,
		-1: false, -57601: false, math.MinInt: false, math.MaxInt: false, 231*api.Day + 28800: true, last: true, last + 1: false,
	} {
		if In(l, at) != want {
			t.Error("In at", at, "is not", want)
		}
	}
	// Each of several elements counts.
	two := []api.Hours{{Days: 64, From: 0, To: 10}, {Days: 1, From: 5, To: 7}, {Days: 1, From: 9, To: 12}}
	for at, want := range []bool{false, false, false, false, false, true, true, false, false, true, true, true, false} {
		if In(two, at) != want || In(two, at+api.Week) != want {
			t.Error("In at", at, "is not", want)
		}
	}
	if In(nil, 0) || In([]api.Hours{}, 0) {
		t.Error("In without hours")
	}
}

func TestInOfAnyHours(t *testing.T) {
	for _, c := range []struct {
		h    api.Hours
		at   int
		want bool
	}{
		{api.Hours{Days: -1, From: -5, To: 1 << 40}, 5, true}, {api.Hours{Days: -1, From: math.MinInt, To: math.MaxInt}, last, true}, {api.Hours{Days: -1, From: math.MinInt, To: math.MaxInt}, last + 1, false}, {api.Hours{Days: -1, From: math.MinInt, To: math.MaxInt}, -1, false},
		{api.Hours{Days: -128, To: api.Day}, 5, false}, {api.Hours{Days: -2, To: api.Day}, 5, false}, {api.Hours{Days: -2, To: api.Day}, api.Day, true}, {api.Hours{Days: math.MinInt, To: api.Day}, 5, false}, {api.Hours{Days: math.MaxInt, To: api.Day}, 6 * api.Day, true},
		{api.Hours{Days: 128, To: api.Day}, 7 * api.Day, false}, {api.Hours{Days: 129, To: api.Day}, 7 * api.Day, true}, {api.Hours{Days: 1, From: 40, To: 30}, 35, false}, {api.Hours{Days: 1, From: 30, To: 30}, 30, false},
		{api.Hours{Days: 1, To: 2 * api.Day}, api.Day + 5, false}, {api.Hours{Days: 1, From: -api.Day, To: 0}, 0, false}, {api.Hours{Days: 1, From: -1, To: 1}, 0, true},
	} {
		if got := In([]api.Hours{c.h}, c.at); got != c.want {
			t.Error(c.h, "at", c.at, "is", got)
		}
	}
}

// anyHours returns hours near the bounds of their fields, and far beyond them.
func anyHours(r *rand.Rand) []api.Hours {
	days := numbers(r, []int{0, 1, 2, 3, 64, 65, 127, 128, -1, -2, -64, -128, math.MinInt, math.MaxInt})
	second := numbers(r, []int{0, 1, 41600, 41601, 86398, 86399, 86400, 86401, -1, math.MinInt, math.MaxInt})
	l := make([]api.Hours, r.IntN(4))
	for i := range l {
		l[i] = api.Hours{Days: days(), From: second(), To: second()}
	}
	return l
}

func TestInAny(t *testing.T) {
	r := source()
	at := numbers(r, edgeTimes())
	for range 40000 {
		l := anyHours(r)
		u := at()
		if r.IntN(2) == 0 {
			u = r.IntN(last + 1)
		}
		want := 0 <= u && u <= last && isOpen(l, u/86400, u%86400)
		if got := In(l, u); got != want {
			t.Fatal(l, "at", u, "is", got)
		}
	}
}

func TestNextExamples(t *testing.T) {
	l := []api.Hours{{Days: 3, From: 28800, To: 57600}}
	for at, want := range map[int]int{
		0: 28800, -5: 28800, -1: 28800, 28799: 28800, 28800: 28800, 30000: 30000, 57599: 57599, 57600: 115200, 144000: 633600, math.MinInt: 28800,
		231*api.Day - 1: 231*api.Day + 28800, last - 1: last - 1, last: last,
	} {
		if u, ok := Next(l, at); u != want || !ok {
			t.Error("Next from", at, "is", u, ok, "want", want)
		}
	}
	for _, at := range []int{last + 1, last + api.Week, math.MaxInt - 1, math.MaxInt} {
		if u, ok := Next(l, at); u != 0 || ok {
			t.Error("Next from", at, "is", u, ok)
		}
	}
}

// always are hours that are open at all times.
func always() []api.Hours { return []api.Hours{{Days: 127, From: 0, To: api.Day}} }

type nextCase struct {
	l        []api.Hours
	at, want int
	ok       bool
}

func checkNext(t *testing.T, cases []nextCase) {
	t.Helper()
	for _, c := range cases {
		if u, ok := Next(c.l, c.at); u != c.want || ok != c.ok {
			t.Error(c, "is", u, ok)
		}
	}
}

func TestNextOfSeveral(t *testing.T) {
	checkNext(t, []nextCase{
		// The earliest element counts, wherever it is in the list.
		{[]api.Hours{{Days: 1, From: 50, To: 60}, {Days: 1, From: 10, To: 20}, {Days: 1, From: 30, To: 40}}, 0, 10, true},
		{[]api.Hours{{Days: 1, From: 50, To: 60}, {Days: 1, From: 10, To: 20}, {Days: 1, From: 30, To: 40}}, 20, 30, true},
		{[]api.Hours{{Days: 1, From: 50, To: 60}, {Days: 1, From: 10, To: 55}}, 52, 52, true},
		{[]api.Hours{{Days: 4, From: 0, To: 1}, {Days: 2, From: 86399, To: 86400}}, 5, 2*api.Day - 1, true},
		// Only the weekday of the start is open, and only before the start: the next week.
		{[]api.Hours{{Days: 8, From: 10, To: 20}}, 3*api.Day + 20, 10*api.Day + 10, true},
		{[]api.Hours{{Days: 64, From: 0, To: 1}}, 6*api.Day + 1, 13 * api.Day, true},
		{[]api.Hours{{Days: 1, From: 0, To: 1}}, api.Week, api.Week, true},
		{[]api.Hours{{Days: 1, From: 0, To: 1}}, 1, api.Week, true},
		{always(), 12345, 12345, true}, {always(), -12345, 0, true}, {always(), last, last, true}, {always(), last + 1, 0, false},
	})
}

func TestNextAtTheEnd(t *testing.T) {
	const start = lastDay * api.Day
	checkNext(t, []nextCase{
		{[]api.Hours{{Days: 1, From: 41600, To: 50000}}, start, last, true},
		{[]api.Hours{{Days: 1, From: 41600, To: 50000}}, last, last, true},
		{[]api.Hours{{Days: 1, From: 41601, To: 50000}}, start, 0, false},
		{[]api.Hours{{Days: 1, From: 41601, To: 50000}}, start - 1, 0, false},
		{[]api.Hours{{Days: 1, From: 41601, To: 50000}}, start - api.Week, start - api.Week + 41601, true},
		{[]api.Hours{{Days: 1, From: 41601, To: 50000}, {Days: 1, From: 41000, To: 41700}}, start, start + 41000, true},
		// The weekday 1 does not come again.
		{[]api.Hours{{Days: 2, From: 0, To: 10}}, start, 0, false},
		{[]api.Hours{{Days: 2, From: 0, To: 10}}, start - 6*api.Day + 9, start - 6*api.Day + 9, true},
		{[]api.Hours{{Days: 2, From: 0, To: 10}}, start - 6*api.Day + 10, 0, false},
		{[]api.Hours{{Days: 126, From: 0, To: api.Day}}, last, 0, false},
	})
}

func TestNextOfAnyHours(t *testing.T) {
	checkNext(t, []nextCase{
		{nil, 0, 0, false}, {[]api.Hours{}, 5, 0, false}, {nil, math.MinInt, 0, false}, {nil, math.MaxInt, 0, false},
		{[]api.Hours{{Days: 1, From: -7, To: 5}, {Days: 2, From: 50, To: 40}}, 3, 3, true},
		{[]api.Hours{{Days: 1, From: -7, To: 5}}, -3, 0, true},
		{[]api.Hours{{Days: 1, From: -7, To: 0}}, 0, 0, false},
		{[]api.Hours{{Days: 0, From: 0, To: api.Day}, {Days: 128, From: 0, To: api.Day}, {Days: -128, From: 0, To: api.Day}}, 0, 0, false},
		{[]api.Hours{{Days: 127, From: 50, To: 50}, {Days: 127, From: 50, To: 40}, {Days: 127, From: math.MaxInt, To: math.MinInt}}, 0, 0, false},
		{[]api.Hours{{Days: 127, From: api.Day, To: 2 * api.Day}, {Days: 127, From: api.Day, To: math.MaxInt}, {Days: 127, From: math.MaxInt - 1, To: math.MaxInt}}, 0, 0, false},
		{[]api.Hours{{Days: 127, From: math.MinInt, To: math.MaxInt}}, 777, 777, true},
		{[]api.Hours{{Days: -2, From: math.MinInt, To: math.MaxInt}}, 777, api.Day, true},
		{[]api.Hours{{Days: math.MinInt | 4, From: 86399, To: math.MaxInt}}, 0, 3*api.Day - 1, true},
		{slices.Repeat([]api.Hours{{Days: 64, From: 3, To: 4}}, 100), 0, 6*api.Day + 3, true},
	})
}

// leastOpen looks for the result of Next on all days of the season: opening seconds change only at a From or at a midnight.
func leastOpen(l []api.Hours, t int) (int, bool) {
	t = max(t, 0)
	for day := range lastDay + 1 {
		seconds := []int{0}
		if t/86400 == day {
			seconds = append(seconds, t%86400)
		}
		for _, h := range l {
			if 0 <= h.From && h.From < 86400 {
				seconds = append(seconds, h.From)
			}
		}
		slices.Sort(seconds)
		for _, s := range seconds {
			if u := day*86400 + s; u >= t && u <= last && isOpen(l, day, s) {
				return u, true
			}
		}
	}
	return 0, false
}

func TestNextAny(t *testing.T) {
	r := source()
	at := numbers(r, edgeTimes())
	for range 8000 {
		l := anyHours(r)
		u := at()
		if r.IntN(3) == 0 {
			u = r.IntN(last + 1)
		}
		want, open := leastOpen(l, u)
		if got, ok := Next(l, u); got != want || ok != open {
			t.Fatal("Next of", l, "from", u, "is", got, ok, "want", want, open)
		}
	}
}

// TestNextBetween walks back through the season, and so knows for each time the next one at which In holds.
func TestNextBetween(t *testing.T) {
	for _, l := range [][]api.Hours{
		{{Days: 20, From: 30000, To: 30007}, {Days: 66, From: 86390, To: 86400}, {Days: 64, From: 0, To: 9}},
		{{Days: 1, From: 41602, To: 86400}},
	} {
		want, open := 0, false
		for u := last; u >= 0; u-- {
			if In(l, u) {
				want, open = u, true
			}
			if u%13 != 0 && u%api.Day < api.Day-20 && u%api.Day > 20 {
				continue
			}
			if got, ok := Next(l, u); got != want || ok != open {
				t.Fatal("Next of", l, "from", u, "is", got, ok, "want", want, open)
			}
		}
	}
}

func TestWeeksRepeat(t *testing.T) {
	r := source()
	for range 40000 {
		l := anyHours(r)
		u := r.IntN(last - api.Week + 1)
		if In(l, u) != In(l, u+api.Week) || Weekday(u) != Weekday(u+api.Week) {
			t.Fatal(l, "at", u, "and a week later")
		}
	}
	// Beyond the season nothing repeats itself.
	u := last - api.Week + 1
	if !In(always(), u) || In(always(), u+api.Week) || Weekday(u+api.Week) != -1 || Weekday(u) != 0 {
		t.Error("a week over the end of the season")
	}
}

func TestHoursStay(t *testing.T) {
	r := source()
	for range 2000 {
		l := anyHours(r)
		before := slices.Clone(l)
		u := r.IntN(last + 1)
		Right(l)
		In(l, u)
		Next(l, u)
		if !slices.Equal(l, before) {
			t.Fatal(before, "became", l)
		}
	}
}
