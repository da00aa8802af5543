package fixed

import (
	"math"
	"math/big"
	"math/rand/v2"
	"regexp"
	"slices"
	"strconv"
	"strings"
	"testing"

	"skiarea/api"
)

const most = api.MaxNumber

// edges are numbers at which a sum, a product or a quotient can go wrong.
func edges() []int {
	var l []int
	for _, n := range []int{0, 1, 2, 3, 7, 499, 500, 501, 999, 1000, 1001, 1500, 2000, 2500, 3000, 999999999, 1 << 25, 1 << 35, most / 1000, most/1000 + 1, most/2 + 1, most - 1, most, most + 1, 1 << 60, math.MaxInt} {
		l = append(l, n, -n)
	}
	return append(l, math.MinInt)
}

// mixed returns numbers of all lengths, the same ones in each run.
func mixed(r *rand.Rand) int {
	n := int(r.Uint64() >> r.IntN(64))
	if r.IntN(2) == 0 {
		return -n
	}
	return n
}

func source() *rand.Rand { return rand.New(rand.NewPCG(1, 2)) }

func within(n, low, high int) bool { return low <= n && n <= high }

func bigInt(n int) *big.Int { return big.NewInt(int64(n)) }

// halfAway is the exact rounding of a * b / c to the nearest integer, halves away from zero.
func halfAway(a, b, c int) *big.Int {
	n := new(big.Int).Mul(bigInt(a), bigInt(b))
	sign := n.Sign() * bigInt(c).Sign()
	d := new(big.Int).Abs(bigInt(c))
	n.Abs(n).Lsh(n, 1).Add(n, d)
	n.Quo(n, d.Lsh(d, 1))
	return n.Mul(n, big.NewInt(int64(sign)))
}

// limited turns an exact result into what a function returns.
func limited(n *big.Int) (int, api.Errno) {
	if n.CmpAbs(bigInt(most)) > 0 {
		return 0, api.ErrOver
	}
	return int(n.Int64()), api.OK
}

type pairCase struct {
	a, b, n int
	e       api.Errno
}

func checkPairs(t *testing.T, name string, f func(a, b int) (int, api.Errno), l []pairCase) {
	t.Helper()
	for _, c := range l {
		if n, e := f(c.a, c.b); n != c.n || e != c.e {
			t.Errorf("%s(%d, %d) is %d, %d, want %d, %d", name, c.a, c.b, n, e, c.n, c.e)
		}
	}
}

func comparePairs(t *testing.T, name string, f, want func(a, b int) (int, api.Errno)) {
	t.Helper()
	check := func(a, b int) {
		n, e := f(a, b)
		if wn, we := want(a, b); n != wn || e != we {
			t.Errorf("%s(%d, %d) is %d, %d, want %d, %d", name, a, b, n, e, wn, we)
		}
	}
	for _, a := range edges() {
		for _, b := range edges() {
			check(a, b)
		}
	}
	r := source()
	for range 20000 {
		check(mixed(r), mixed(r))
	}
}

// P1.1
func TestAdd(t *testing.T) {
	checkPairs(t, "Add", Add, []pairCase{
		{2, 3, 5, api.OK}, {-2500, 500, -2000, api.OK}, {0, 0, 0, api.OK},
		{most, 0, most, api.OK}, {-most, 0, -most, api.OK}, {most, -most, 0, api.OK}, {most - 1, 1, most, api.OK},
		{most, 1, 0, api.ErrOver}, {-most, -1, 0, api.ErrOver}, {most, most, 0, api.ErrOver},
		{most + 1, -5, 0, api.ErrOver}, {-5, most + 1, 0, api.ErrOver}, {-most - 1, 5, 0, api.ErrOver},
		{math.MinInt, math.MinInt, 0, api.ErrOver}, {math.MaxInt, math.MinInt, 0, api.ErrOver}, {math.MaxInt, 1, 0, api.ErrOver},
	})
	comparePairs(t, "Add", Add, func(a, b int) (int, api.Errno) {
		if !within(a, -most, most) || !within(b, -most, most) {
			return 0, api.ErrOver
		}
		return limited(new(big.Int).Add(bigInt(a), bigInt(b)))
	})
}

// P1.2
func TestMul(t *testing.T) {
	checkPairs(t, "Mul", Mul, []pairCase{
		{2500, 2500, 6250, api.OK}, {1, 500, 1, api.OK}, {-1, 500, -1, api.OK}, {1, -500, -1, api.OK}, {-1, -500, 1, api.OK},
		{1, 499, 0, api.OK}, {-1, 499, 0, api.OK}, {3, 500, 2, api.OK}, {-3, 500, -2, api.OK}, {0, -1, 0, api.OK},
		{most, 1000, most, api.OK}, {most, -1000, -most, api.OK}, {-most, -1000, most, api.OK},
		{most, 1001, 0, api.ErrOver}, {-most, 1001, 0, api.ErrOver}, {most, most, 0, api.ErrOver}, {-most, -most, 0, api.ErrOver}, {1<<32 - 1, 1<<32 + 1, 0, api.ErrOver}, {1 << 32, 1 << 32, 0, api.ErrOver},
		{most + 1, 0, 0, api.ErrOver}, {0, most + 1, 0, api.ErrOver}, {-most - 1, 1, 0, api.ErrOver}, {math.MinInt, 0, 0, api.ErrOver}, {0, math.MinInt, 0, api.ErrOver}, {math.MaxInt, 1, 0, api.ErrOver},
	})
	comparePairs(t, "Mul", Mul, func(a, b int) (int, api.Errno) {
		if !within(a, -most, most) || !within(b, -most, most) {
			return 0, api.ErrOver
		}
		return limited(halfAway(a, b, 1000))
	})
}

// P1.3
func TestDiv(t *testing.T) {
	checkPairs(t, "Div", Div, []pairCase{
		{1000, 3000, 333, api.OK}, {2000, 3000, 667, api.OK}, {1, -2000, -1, api.OK}, {1, 2000, 1, api.OK}, {-1, 2000, -1, api.OK}, {-1, -2000, 1, api.OK},
		{1, 2001, 0, api.OK}, {0, -7, 0, api.OK}, {3, 2000, 2, api.OK}, {-5, 2000, -3, api.OK},
		{most, 1000, most, api.OK}, {most, -1000, -most, api.OK}, {1, most, 0, api.OK}, {most, most, 1000, api.OK},
		{most, 999, 0, api.ErrOver}, {most, 1, 0, api.ErrOver}, {-most, 1, 0, api.ErrOver}, {most, -1, 0, api.ErrOver},
		{5, 0, 0, api.ErrArg}, {0, 0, 0, api.ErrArg}, {most + 1, 0, 0, api.ErrOver}, {-most - 1, 0, 0, api.ErrOver},
		{0, most + 1, 0, api.ErrOver}, {math.MinInt, math.MinInt, 0, api.ErrOver}, {1, math.MinInt, 0, api.ErrOver},
	})
	comparePairs(t, "Div", Div, func(a, b int) (int, api.Errno) {
		if !within(a, -most, most) || !within(b, -most, most) {
			return 0, api.ErrOver
		}
		if b == 0 {
			return 0, api.ErrArg
		}
		return limited(halfAway(a, 1000, b))
	})
}

type ratioCase struct {
	a, b, c, n int
	e          api.Errno
}

// P1.4
func TestRatio(t *testing.T) {
	for _, c := range []ratioCase{
		{7, 3, 2, 10, api.OK}, {0, 5, 1, 0, api.OK}, {5, 0, 1, 0, api.OK}, {1, 1, 2, 0, api.OK}, {1999, 1, 1000, 1, api.OK},
		{most, most, most, most, api.OK}, {most, 1, 1, most, api.OK}, {most - 1, most - 1, most, most - 2, api.OK}, {most, 3, 4, 3 << 48, api.OK},
		{most, 2, 1, 0, api.ErrOver}, {most, most, most - 1, 0, api.ErrOver}, {most, most, 1, 0, api.ErrOver}, {most, 1 << 14, 1, 0, api.ErrOver}, {1 << 26, 1 << 25, 1, 0, api.ErrOver},
		{-1, 1, 1, 0, api.ErrArg}, {1, -1, 1, 0, api.ErrArg}, {1, 1, 0, 0, api.ErrArg}, {1, 1, -1, 0, api.ErrArg},
		{most + 1, 1, 1, 0, api.ErrArg}, {1, most + 1, 1, 0, api.ErrArg}, {1, 1, most + 1, 0, api.ErrArg},
		{math.MinInt, 1, 1, 0, api.ErrArg}, {1, math.MaxInt, 1, 0, api.ErrArg}, {most, most, 0, 0, api.ErrArg},
	} {
		if n, e := Ratio(c.a, c.b, c.c); n != c.n || e != c.e {
			t.Errorf("Ratio(%d, %d, %d) is %d, %d, want %d, %d", c.a, c.b, c.c, n, e, c.n, c.e)
		}
	}
}

// checkRatio tests P1.4 and the bounds of P1.9 for one triple.
func checkRatio(t *testing.T, a, b, c int) {
	t.Helper()
	n, e := Ratio(a, b, c)
	if !within(a, 0, most) || !within(b, 0, most) || !within(c, 1, most) {
		if n != 0 || e != api.ErrArg {
			t.Errorf("Ratio(%d, %d, %d) is %d, %d, want ErrArg", a, b, c, n, e)
		}
		return
	}
	product := new(big.Int).Mul(bigInt(a), bigInt(b))
	if e == api.ErrOver {
		least := new(big.Int).Mul(bigInt(most+1), bigInt(c))
		if n != 0 || product.Cmp(least) < 0 {
			t.Errorf("Ratio(%d, %d, %d) is %d, ErrOver", a, b, c, n)
		}
		return
	}
	low := new(big.Int).Mul(bigInt(n), bigInt(c))
	high := new(big.Int).Mul(bigInt(n+1), bigInt(c))
	if e != api.OK || !within(n, 0, most) || low.Cmp(product) > 0 || product.Cmp(high) >= 0 {
		t.Errorf("Ratio(%d, %d, %d) is %d, %d", a, b, c, n, e)
	}
}

// P1.4, P1.9
func TestRatioBounds(t *testing.T) {
	for _, a := range edges() {
		for _, b := range edges() {
			for _, c := range edges() {
				checkRatio(t, a, b, c)
			}
		}
	}
	r := source()
	for range 50000 {
		checkRatio(t, r.IntN(most+1)>>r.IntN(50), r.IntN(most+1)>>r.IntN(50), 1+r.IntN(most)>>r.IntN(50))
	}
}

// P1.5
func TestRound(t *testing.T) {
	checkPairs(t, "Round", Round, []pairCase{
		{15, 10, 20, api.OK}, {14, 10, 10, api.OK}, {16, 10, 20, api.OK}, {-15, 10, -10, api.OK}, {-14, 10, -10, api.OK}, {-16, 10, -20, api.OK}, {-5, 10, 0, api.OK}, {5, 10, 10, api.OK},
		{0, 7, 0, api.OK}, {3, 7, 0, api.OK}, {4, 7, 7, api.OK}, {-3, 7, 0, api.OK}, {-4, 7, -7, api.OK}, {5, 1, 5, api.OK}, {-5, 1, -5, api.OK}, {20, 10, 20, api.OK}, {-20, 10, -20, api.OK},
		{most, 1, most, api.OK}, {-most, 1, -most, api.OK}, {0, 1000000000, 0, api.OK}, {500000000, 1000000000, 1000000000, api.OK}, {-500000000, 1000000000, 0, api.OK},
		{most, 999999999, (most/999999999 + 1) * 999999999, api.OK}, {most, 3, most - 1, api.OK}, {most, 5, most + 1, api.OK}, {-most, 5, -most - 1, api.OK},
		{5, 0, 0, api.ErrArg}, {5, -1, 0, api.ErrArg}, {5, 1000000001, 0, api.ErrArg}, {5, math.MaxInt, 0, api.ErrArg}, {5, math.MinInt, 0, api.ErrArg},
		{most + 1, 1, 0, api.ErrArg}, {-most - 1, 1, 0, api.ErrArg}, {math.MaxInt, 10, 0, api.ErrArg}, {math.MinInt, 10, 0, api.ErrArg},
	})
	r := source()
	for range 50000 {
		x, step := mixed(r)>>14, 1+r.IntN(1000000000)>>r.IntN(30)
		n, e := Round(x, step)
		if d := 2 * (n - x); e != api.OK || n%step != 0 || d <= -step || d > step {
			t.Errorf("Round(%d, %d) is %d, %d", x, step, n, e)
		}
	}
}

func rising(n int) []api.Point {
	l := make([]api.Point, n)
	for i := range l {
		l[i] = api.Point{X: i * 10, Y: i * i}
	}
	return l
}

type atCase struct {
	l    []api.Point
	x, n int
	e    api.Errno
}

// P1.6
func TestAt(t *testing.T) {
	const far = 1000000000
	up := []api.Point{{X: 0, Y: 0}, {X: 10, Y: 5}}
	down := []api.Point{{X: 0, Y: 0}, {X: 10, Y: -5}, {X: 11, Y: 100}}
	left := []api.Point{{X: -10, Y: 3}, {X: -3, Y: -4}, {X: 4, Y: 4}}
	wide := []api.Point{{X: -far, Y: -far}, {X: far, Y: far}}
	fall := []api.Point{{X: -far, Y: far}, {X: far, Y: -far}}
	for i, c := range []atCase{
		{up, 5, 2, api.OK}, {up, -7, 0, api.OK}, {up, 100, 5, api.OK}, {up, 0, 0, api.OK}, {up, 10, 5, api.OK}, {up, 9, 4, api.OK}, {up, 1, 0, api.OK},
		{up, math.MinInt, 0, api.OK}, {up, math.MaxInt, 5, api.OK},
		{down, 5, -3, api.OK}, {down, 1, -1, api.OK}, {down, 2, -1, api.OK}, {down, 9, -5, api.OK}, {down, 10, -5, api.OK}, {down, 11, 100, api.OK}, {down, 12, 100, api.OK},
		{left, -11, 3, api.OK}, {left, -10, 3, api.OK}, {left, -9, 2, api.OK}, {left, -3, -4, api.OK}, {left, -2, -3, api.OK}, {left, 3, 2, api.OK},
		{wide, 12345, 12345, api.OK}, {wide, far - 1, far - 1, api.OK}, {fall, far - 1, 1 - far, api.OK}, {fall, -7, 7, api.OK}, {wide, math.MinInt, -far, api.OK}, {fall, math.MaxInt, -far, api.OK},
		{up[:1], 7, 0, api.OK}, {up[1:], -7, 5, api.OK}, {up[1:], 10, 5, api.OK}, {rising(64), 625, 62*62 + 62, api.OK}, {rising(64), 630, 63 * 63, api.OK},
	} {
		if n, e := At(c.l, c.x); n != c.n || e != c.e {
			t.Errorf("case %d: At %d is %d, %d, want %d, %d", i, c.x, n, e, c.n, c.e)
		}
	}
}

// P1.6
func TestAtInvalid(t *testing.T) {
	const far = 1000000000
	for i, l := range [][]api.Point{
		nil, {}, rising(65), make([]api.Point, 65), rising(1000),
		{{X: 1}, {X: 1}}, {{X: 2}, {X: 1}}, {{X: 1}, {X: 3}, {X: 2}}, {{X: 1}, {X: 2}, {X: 2}},
		{{X: far + 1}}, {{X: -far - 1}}, {{Y: far + 1}}, {{Y: -far - 1}},
		{{X: 0}, {X: far + 1}}, {{X: 0}, {X: 1, Y: math.MaxInt}}, {{X: math.MinInt}, {X: 0}}, {{X: 0}, {X: 1, Y: math.MinInt}, {X: 2}},
	} {
		for _, x := range []int{0, 1, -far, far, math.MinInt, math.MaxInt} {
			if n, e := At(l, x); n != 0 || e != api.ErrArg {
				t.Errorf("case %d: At %d is %d, %d, want ErrArg", i, x, n, e)
			}
		}
	}
}

// randomPoints returns points with small or great coordinates, with Y that rise if it is asked for.
func randomPoints(r *rand.Rand, rise bool) []api.Point {
	reach := 20
	if r.IntN(2) == 0 {
		reach = 1000000000
	}
	xs, ys := map[int]bool{}, []int{}
	for range 1 + r.IntN(8) {
		xs[r.IntN(2*reach+1)-reach] = true
	}
	var l []api.Point
	for x := range xs {
		l = append(l, api.Point{X: x})
		ys = append(ys, r.IntN(2*reach+1)-reach)
	}
	slices.SortFunc(l, func(a, b api.Point) int { return a.X - b.X })
	if rise {
		slices.Sort(ys)
	}
	for i := range l {
		l[i].Y = ys[i]
	}
	return l
}

// exactAt follows the words of P1.6 with exact numbers.
func exactAt(l []api.Point, x int) int {
	last := l[len(l)-1]
	if x <= l[0].X {
		return l[0].Y
	}
	if x >= last.X {
		return last.Y
	}
	i := 0
	for l[i+1].X <= x {
		i++
	}
	p, q := l[i], l[i+1]
	n := new(big.Int).Mul(bigInt(q.Y-p.Y), bigInt(x-p.X))
	// Div rounds down, as the divisor is positive.
	return p.Y + int(n.Div(n, bigInt(q.X-p.X)).Int64())
}

// P1.6
func TestAtExact(t *testing.T) {
	r := source()
	for range 20000 {
		l := randomPoints(r, false)
		before := slices.Clone(l)
		p := l[r.IntN(len(l))]
		for _, x := range []int{p.X, p.X - 1, p.X + 1, r.IntN(41) - 20, r.IntN(2000000001) - 1000000000} {
			if n, e := At(l, x); n != exactAt(l, x) || e != api.OK {
				t.Errorf("At(%v, %d) is %d, %d, want %d", l, x, n, e, exactAt(l, x))
			}
		}
		if !slices.Equal(l, before) {
			t.Fatalf("At changed %v to %v", before, l)
		}
	}
}

// P1.8
func TestAtRises(t *testing.T) {
	r := source()
	for i := range 5000 {
		rise := i%2 == 0
		l := randomPoints(r, rise)
		low, high := l[0].Y, l[0].Y
		for _, p := range l {
			low, high = min(low, p.Y), max(high, p.Y)
		}
		xs := []int{math.MinInt, math.MaxInt}
		for range 30 {
			xs = append(xs, r.IntN(61)-30, l[0].X+r.IntN(l[len(l)-1].X-l[0].X+1))
		}
		slices.Sort(xs)
		previous := low
		for _, x := range xs {
			n, e := At(l, x)
			if e != api.OK || !within(n, low, high) {
				t.Errorf("At(%v, %d) is %d, %d", l, x, n, e)
			}
			if rise && n < previous {
				t.Errorf("At(%v, %d) is %d, after %d", l, x, n, previous)
			}
			previous = n
		}
	}
}

// P1.7
func TestPrint(t *testing.T) {
	for _, c := range []struct {
		x int
		s string
	}{
		{0, "0.000"}, {1, "0.001"}, {-1, "-0.001"}, {10, "0.010"}, {999, "0.999"}, {-999, "-0.999"}, {1000, "1.000"}, {-1000, "-1.000"}, {1001, "1.001"}, {-1500, "-1.500"},
		{10000, "10.000"}, {12345678, "12345.678"}, {9999999999999, "9999999999.999"}, {math.MaxInt, "9223372036854775.807"}, {math.MinInt, "-9223372036854775.808"},
	} {
		if s := Print(c.x); s != c.s {
			t.Errorf("Print(%d) is %s, want %s", c.x, s, c.s)
		}
	}
	r := source()
	shape := regexp.MustCompile(`^-?(0|[1-9][0-9]*)\.[0-9]{3}$`)
	for range 20000 {
		x := mixed(r)
		s := Print(x)
		if n, err := strconv.Atoi(strings.Replace(s, ".", "", 1)); err != nil || n != x || !shape.MatchString(s) {
			t.Errorf("Print(%d) is %s", x, s)
		}
	}
}

// P1.7
func TestParse(t *testing.T) {
	for _, c := range []struct {
		s string
		n int
	}{
		{"2.5", 2500}, {"0", 0}, {"0.0", 0}, {"0.000", 0}, {"-0.001", -1}, {"-0.1", -100}, {"7", 7000}, {"-7", -7000}, {"-7.0", -7000}, {"10.05", 10050}, {"10.005", 10005}, {"100", 100000},
		{"1.20", 1200}, {"9999999999", 9999999999000}, {"9999999999.999", 9999999999999}, {"-9999999999.999", -9999999999999}, {"1000000000", 1000000000000},
	} {
		if n, e := Parse(c.s); n != c.n || e != api.OK {
			t.Errorf("Parse(%q) is %d, %d, want %d", c.s, n, e, c.n)
		}
	}
	for _, s := range []string{
		"", "-", ".", "-.", "+", "-0", "-0.0", "-0.00", "-0.000", "00", "01", "00.5", "-01", "1.", "-1.", ".5", "-.5", "1.2345", "1.0000", "+1", "--1", "1-", "1.-5",
		"12345678901", "12345678901.5", "99999999999", "18446744073709551616", "01234567890", " 1", "1 ", "1 .5", "1.5\n", "1.2.3", "1..2", "1,5", "1e3", "0x1", "1_0", "a", "1.a", "1\x00", "\xff", "\u0661", "\u22121", "1.\u0661",
		strings.Repeat("1", 100000), "1." + strings.Repeat("0", 100000),
	} {
		if n, e := Parse(s); n != 0 || e != api.ErrForm {
			t.Errorf("Parse(%.30q) is %d, %d, want ErrForm", s, n, e)
		}
	}
}

// P1.7: all short strings over some characters.
func TestParseAll(t *testing.T) {
	const alphabet = "-+.019 "
	form := regexp.MustCompile(`^-?(0|[1-9][0-9]{0,9})(\.[0-9]{1,3})?$`)
	zero := regexp.MustCompile(`^-[0.]*$`)
	var check func(s string)
	check = func(s string) {
		n, e := Parse(s)
		good := form.MatchString(s) && !zero.MatchString(s)
		if (e == api.OK) != good || !good && (n != 0 || e != api.ErrForm) {
			t.Errorf("Parse(%q) is %d, %d", s, n, e)
		}
		if good {
			exact, _ := new(big.Rat).SetString(s)
			if exact.Cmp(big.NewRat(int64(n), 1000)) != 0 {
				t.Errorf("Parse(%q) is %d", s, n)
			}
		}
		if len(s) < 6 {
			for _, c := range alphabet {
				check(s + string(c))
			}
		}
	}
	check("")
}

// P1.9
func TestParsePrint(t *testing.T) {
	const limit = 9999999999999
	check := func(x int) {
		n, e := Parse(Print(x))
		if within(x, -limit, limit) {
			if n != x || e != api.OK {
				t.Errorf("Parse(Print(%d)) is %d, %d", x, n, e)
			}
		} else if n != 0 || e != api.ErrForm {
			t.Errorf("Parse(Print(%d)) is %d, %d, want ErrForm", x, n, e)
		}
	}
	for _, x := range append(edges(), limit, -limit, limit-1, 1-limit, limit+1, -limit-1) {
		check(x)
	}
	for x := -12000; x <= 12000; x++ {
		check(x)
	}
	r := source()
	for range 20000 {
		check(mixed(r))
	}
}
