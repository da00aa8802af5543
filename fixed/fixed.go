// Package fixed implements fixed-point numbers with three decimals: an int x stands for x/1000. Layer 1, see shared/doc/01-fixed.md.
package fixed

import (
	"math/bits"
	"sort"
	"strconv"
	"strings"

	"skiarea/api"
)

const (
	maxStep        = 1000000000
	maxCoordinate  = 1000000000
	maxPoints      = 64
	maxWholeDigits = 10
	decimals       = 3
)

// Add returns a + b. It returns ErrOver unless a, b and the sum are from -MaxNumber to MaxNumber.
func Add(a, b int) (int, api.Errno) {
	if !inRange(a) || !inRange(b) || !inRange(a+b) {
		return 0, api.ErrOver
	}
	return a + b, api.OK
}

// Mul returns a * b / 1000, rounded to the nearest integer, halves away from zero. It returns ErrOver unless a, b and the result are from -MaxNumber to MaxNumber. The result is exact for all such a and b.
func Mul(a, b int) (int, api.Errno) {
	if !inRange(a) || !inRange(b) {
		return 0, api.ErrOver
	}
	return nearest(a, b, api.One)
}

// Div returns a * 1000 / b, rounded to the nearest integer, halves away from zero. Errors, in this order: ErrOver unless a and b are from -MaxNumber to MaxNumber; ErrArg if b is 0; ErrOver unless the result is from -MaxNumber to MaxNumber.
func Div(a, b int) (int, api.Errno) {
	if !inRange(a) || !inRange(b) {
		return 0, api.ErrOver
	}
	if b == 0 {
		return 0, api.ErrArg
	}
	return nearest(a, api.One, b)
}

// Ratio returns a * b / c, rounded down. Errors, in this order: ErrArg unless a and b are from 0 to MaxNumber and c is from 1 to MaxNumber; ErrOver if the result is greater than MaxNumber.
func Ratio(a, b, c int) (int, api.Errno) {
	if a < 0 || b < 0 || c < 1 || !inRange(a) || !inRange(b) || !inRange(c) {
		return 0, api.ErrArg
	}
	return quotient(uint64(a), uint64(b), uint64(c), 0)
}

// Round returns the multiple of step that is nearest to x, of two the greater one. It returns ErrArg unless x is from -MaxNumber to MaxNumber and step from 1 to 1000000000.
func Round(x, step int) (int, api.Errno) {
	if !inRange(x) || step < 1 || step > maxStep {
		return 0, api.ErrArg
	}
	lower := floorDiv(x, step) * step
	if 2*(x-lower) >= step {
		return lower + step, api.OK
	}
	return lower, api.OK
}

// At returns the value at x of the piecewise linear function with the points l: the Y of the first point if x is not greater than its X; that of the last point if x is not less than its X; otherwise, with the last point P whose X is not greater than x and the next one Q, P.Y + (Q.Y - P.Y) * (x - P.X) / (Q.X - P.X), where the quotient is rounded down (towards minus infinity). It returns ErrArg unless there are 1 to 64 points whose X increase strictly, and all X and Y are from -1000000000 to 1000000000. x can be any int.
func At(l []api.Point, x int) (int, api.Errno) {
	if !validPoints(l) {
		return 0, api.ErrArg
	}
	next := sort.Search(len(l), func(i int) bool { return l[i].X > x })
	if next == 0 {
		return l[0].Y, api.OK
	}
	if next == len(l) {
		return l[next-1].Y, api.OK
	}
	// Both differences are at most 2000000000 here, so their product fits into an int.
	p, q := l[next-1], l[next]
	return p.Y + floorDiv((q.Y-p.Y)*(x-p.X), q.X-p.X), api.OK
}

// Print returns x as a decimal number: a minus sign if it is negative, the integer part without leading zeros (0 is written 0), a point, and exactly three digits. x can be any int.
func Print(x int) string {
	sign := ""
	if x < 0 {
		sign = "-"
	}
	n := magnitude(x)
	// Adding One and dropping its digit keeps the leading zeros of the decimals.
	fraction := strconv.FormatUint(api.One+n%api.One, 10)[1:]
	return sign + strconv.FormatUint(n/api.One, 10) + "." + fraction
}

// Parse returns the number of a string: optionally a minus sign; 1 to 10 digits without leading zeros (0 alone is allowed); optionally a point and 1 to 3 digits. It returns ErrForm for any other string, and for a minus sign before a number that is 0.
func Parse(s string) (int, api.Errno) {
	unsigned, minus := strings.CutPrefix(s, "-")
	whole, fraction, point := strings.Cut(unsigned, ".")
	if !validWhole(whole) || point && !areDigits(fraction, decimals) {
		return 0, api.ErrForm
	}
	n, err := strconv.Atoi(whole + (fraction + "000")[:decimals])
	if err != nil || minus && n == 0 {
		return 0, api.ErrForm
	}
	if minus {
		n = -n
	}
	return n, api.OK
}

func inRange(x int) bool { return -api.MaxNumber <= x && x <= api.MaxNumber }

// magnitude is the absolute value; it is unsigned because that of the least int is not an int.
func magnitude(x int) uint64 {
	if x < 0 {
		return -uint64(x)
	}
	return uint64(x)
}

// nearest returns a * b / c, rounded to the nearest integer. It rounds the magnitude, so that halves go away from zero for both signs.
func nearest(a, b, c int) (int, api.Errno) {
	divisor := magnitude(c)
	n, e := quotient(magnitude(a), magnitude(b), divisor, divisor/2)
	if (a < 0) != (b < 0) != (c < 0) {
		n = -n
	}
	return n, e
}

// quotient returns (a * b + extra) / c, rounded down, or ErrOver if that is greater than MaxNumber. c is not 0. The product can have 100 bits, so it is kept in two words.
func quotient(a, b, c, extra uint64) (int, api.Errno) {
	high, low := bits.Mul64(a, b)
	low, carry := bits.Add64(low, extra, 0)
	high += carry
	// Div64 panics if the quotient does not fit into 64 bits.
	if high >= c {
		return 0, api.ErrOver
	}
	n, _ := bits.Div64(high, low, c)
	if n > api.MaxNumber {
		return 0, api.ErrOver
	}
	return int(n), api.OK
}

// floorDiv returns a / b, rounded down, for a b that is greater than 0. Go's own division rounds towards zero.
func floorDiv(a, b int) int {
	n := a / b
	if a%b < 0 {
		n--
	}
	return n
}

func validPoints(l []api.Point) bool {
	if len(l) < 1 || len(l) > maxPoints {
		return false
	}
	for i, p := range l {
		if !validCoordinate(p.X) || !validCoordinate(p.Y) {
			return false
		}
		if i > 0 && l[i-1].X >= p.X {
			return false
		}
	}
	return true
}

func validCoordinate(n int) bool { return -maxCoordinate <= n && n <= maxCoordinate }

func validWhole(s string) bool {
	return areDigits(s, maxWholeDigits) && (len(s) == 1 || s[0] != '0')
}

// areDigits says whether s consists of 1 to most digits.
func areDigits(s string, most int) bool {
	if len(s) < 1 || len(s) > most {
		return false
	}
	for i := range len(s) {
		if s[i] < '0' || s[i] > '9' {
			return false
		}
	}
	return true
}
