package assign

import (
	"math"
	"math/rand/v2"
	"slices"
	"testing"

	"skiarea/api"
)

const million = 1000000

func source() *rand.Rand { return rand.New(rand.NewPCG(8, 8)) }

// matrix makes a matrix with so many columns of the costs, row by row.
func matrix(columns int, costs ...int) [][]int {
	var m [][]int
	for row := range slices.Chunk(costs, columns) {
		m = append(m, slices.Clone(row))
	}
	return m
}

// filled is a matrix with the same cost everywhere.
func filled(rows, columns, cost int) [][]int {
	m := make([][]int, rows)
	for i := range m {
		m[i] = slices.Repeat([]int{cost}, columns)
	}
	return m
}

// example is the matrix of the chapter's first example.
func example() [][]int { return matrix(3, 4, 1, 3, 2, 0, 5, 3, 2, 2) }

func clone(m [][]int) [][]int {
	copied := make([][]int, len(m))
	for i, row := range m {
		copied[i] = slices.Clone(row)
	}
	return copied
}

func upTo(n int) []int {
	l := make([]int, n)
	for i := range l {
		l[i] = i
	}
	return l
}

// isAssignment says by the words of the chapter whether p has a column for each row, and none twice.
func isAssignment(m [][]int, p []int) bool {
	if len(p) != len(m) {
		return false
	}
	rows := map[int]int{}
	for i, k := range p {
		if k < 0 || k > len(m[i])-1 {
			return false
		}
		rows[k]++
	}
	return len(rows) == len(m)
}

// sum is the total cost of an assignment.
func sum(m [][]int, p []int) (n int) {
	for i, row := range m {
		n += row[p[i]]
	}
	return n
}

// assignments returns all lists of so many different columns, those that begin with the last column first: that is not the lexicographic order.
func assignments(rows, columns int) [][]int {
	if rows == 0 {
		return [][]int{{}}
	}
	var all [][]int
	for _, p := range assignments(rows-1, columns) {
		for k := columns - 1; k >= 0; k-- {
			if !slices.Contains(p, k) {
				all = append(all, append(slices.Clone(p), k))
			}
		}
	}
	slices.Reverse(all)
	return all
}

// sizes has all assignments for each number of rows and columns, computed once for each of them.
type sizes map[[2]int][][]int

func (s sizes) of(m [][]int) [][]int {
	size := [2]int{len(m)}
	if len(m) > 0 {
		size[1] = len(m[0])
	}
	if s[size] == nil {
		s[size] = assignments(size[0], size[1])
	}
	return s[size]
}

// plainBest looks at all assignments. The order of slices.Compare is that of the chapter.
func plainBest(m [][]int, all [][]int) ([]int, int) {
	best, least := all[0], sum(m, all[0])
	for _, p := range all[1:] {
		if n := sum(m, p); n < least || n == least && slices.Compare(p, best) < 0 {
			best, least = p, n
		}
	}
	return best, least
}

// randomMatrix has costs below some bound, so that there are often several assignments of the same cost; some rows and costs occur twice.
func randomMatrix(r *rand.Rand, rows, columns int) [][]int {
	bounds := []int{1, 2, 3, 5, 10, 100, million + 1}
	bound := bounds[r.IntN(len(bounds))]
	m := make([][]int, rows)
	for i := range m {
		m[i] = make([]int, columns)
		for k := range m[i] {
			m[i][k] = r.IntN(bound)
		}
		if r.IntN(8) == 0 {
			copy(m[i], m[r.IntN(i+1)])
		}
	}
	return m
}

// anyMatrices calls f with n matrices of up to 8 rows and columns.
func anyMatrices(r *rand.Rand, n int, f func(m [][]int)) {
	for range n {
		columns := r.IntN(9)
		f(randomMatrix(r, r.IntN(columns+1), columns))
	}
}

const mark = -77

// roomy returns a copy of l in which marks stand behind the elements, within its capacity.
func roomy[T any](l []T, mark T) []T {
	return append(slices.Clone(l), mark, mark)[:len(l)]
}

// behind is the room of the two marks behind the elements.
func behind[T any](l []T) []T { return l[len(l) : len(l)+2] }

// unchanged calls f with copies of m and list, and checks that f changed neither them nor the room behind them.
func unchanged(t *testing.T, m [][]int, list []int, f func(m [][]int, list []int)) {
	t.Helper()
	rows := make([][]int, len(m))
	for i, row := range m {
		rows[i] = roomy(row, mark)
	}
	rows, numbers := roomy(rows, []int{mark}), roomy(list, mark)
	f(rows, numbers)
	same := slices.EqualFunc(rows, m, slices.Equal) && slices.Equal(numbers, list)
	for _, row := range append(slices.Clone(rows), numbers) {
		same = same && slices.Equal(behind(row), []int{mark, mark})
	}
	for _, row := range behind(rows) {
		same = same && slices.Equal(row, []int{mark})
	}
	if !same {
		t.Fatalf("%v and %v are %v and %v", m, list, rows, numbers)
	}
}

// P8.1 to P8.3: no argument is changed, and no result shares memory with one or with another result.
func TestArgumentsAndResults(t *testing.T) {
	r := source()
	anyMatrices(r, 500, func(m [][]int) {
		list := r.Perm(len(m) + r.IntN(3)/2)
		unchanged(t, m, list, func(m [][]int, list []int) {
			Right(m)
			Total(m, list)
			first, cost, _ := Best(m)
			kept := slices.Clone(first)
			for i := range first[:cap(first)] {
				first[:cap(first)][i] = mark
			}
			second, again, _ := Best(m)
			if !slices.Equal(second, kept) || cost != again {
				t.Fatalf("%v: %v, %v, then %v, %v", m, kept, cost, second, again)
			}
			before := clone(m)
			for _, row := range m {
				for k := range row {
					row[k] = million - row[k]
				}
			}
			Best(m)
			if !slices.Equal(second, kept) {
				t.Fatalf("%v: %v became %v", before, kept, second)
			}
			for i, row := range before {
				copy(m[i], row)
			}
		})
	})
}

// P8.1 to P8.3: the same row several times, as the same memory.
func TestRowsThatShareMemory(t *testing.T) {
	row := []int{3, 1, 2, 1}
	m := [][]int{row, row, row}
	askBest(t, m, 4, 1, 2, 3)
	checkTotal(t, m, []int{0, 1, 2}, 6, true)
	if !slices.Equal(row, []int{3, 1, 2, 1}) {
		t.Error(row)
	}
}

// No function panics, also for matrices for which the chapter does not define it.
func TestMatricesThatAreNotRight(t *testing.T) {
	r := source()
	numbers := []int{math.MinInt, math.MinInt + 1, -million, -1, 0, 1, 2, 8, million, million + 1, 1 << 62, math.MaxInt}
	pick := func() int { return numbers[r.IntN(len(numbers))] }
	for range 5000 {
		m := make([][]int, r.IntN(12))
		columns := r.IntN(12)
		for i := range m {
			m[i] = make([]int, columns)
			for k := range m[i] {
				if r.IntN(4) == 0 {
					m[i][k] = pick()
				}
			}
			if r.IntN(12) == 0 {
				m[i] = make([]int, r.IntN(12))
			}
		}
		list := r.Perm(len(m))
		if len(list) > 0 && r.IntN(4) == 0 {
			list[r.IntN(len(list))] = pick()
		}
		if n, ok := Total(m, list); ok != isAssignment(m, list) || !ok && n != 0 {
			t.Fatalf("%v: %v: %v, %v", m, list, n, ok)
		}
		if p, n, e := Best(m); e != errorOf(m) || e != api.OK && (len(p) > 0 || n != 0) {
			t.Fatalf("%v: %v, %v, %v", m, p, n, e)
		}
	}
}
