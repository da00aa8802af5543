package assign

import (
	"math"
	"slices"
	"testing"
)

// checkTotal compares Total with what is wanted.
func checkTotal(t *testing.T, m [][]int, p []int, want int, ok bool) {
	t.Helper()
	if n, got := Total(m, p); n != want || got != ok {
		t.Fatalf("%v: Total of %v is %v, %v, want %v, %v", m, p, n, got, want, ok)
	}
}

// P8.2
func TestTotalExamples(t *testing.T) {
	two := matrix(2, 1, 2, 3, 4)
	checkTotal(t, two, []int{1, 0}, 5, true)
	checkTotal(t, two, []int{0, 1}, 5, true)
	checkTotal(t, two, []int{1, 1}, 0, false)
	checkTotal(t, two, []int{0, 0}, 0, false)
	checkTotal(t, example(), []int{1, 0, 2}, 5, true)
	checkTotal(t, example(), []int{0, 1, 2}, 6, true)
	checkTotal(t, example(), []int{2, 1, 0}, 6, true)
	checkTotal(t, example(), []int{2, 0, 1}, 7, true)
	checkTotal(t, example(), []int{0, 2, 1}, 11, true)
	checkTotal(t, example(), []int{1, 2, 0}, 9, true)
	checkTotal(t, matrix(3, 7, 5, 6), []int{2}, 6, true)
	checkTotal(t, filled(8, 8, million), []int{7, 0, 6, 1, 5, 2, 4, 3}, 8*million, true)
	checkTotal(t, filled(8, 8, 0), upTo(8), 0, true)
	// A column more than there are rows may be used, and any one left out.
	wide := matrix(4, 1, 2, 3, 4, 10, 20, 30, 40)
	checkTotal(t, wide, []int{3, 0}, 14, true)
	checkTotal(t, wide, []int{0, 3}, 41, true)
	checkTotal(t, wide, []int{2, 3}, 43, true)
	checkTotal(t, wide, []int{3, 3}, 0, false)
}

// P8.2: no rows.
func TestTotalWithoutRows(t *testing.T) {
	for _, m := range [][][]int{nil, {}} {
		checkTotal(t, m, nil, 0, true)
		checkTotal(t, m, []int{}, 0, true)
		for _, p := range [][]int{{0}, {-1}, {1}, {math.MinInt}, {math.MaxInt}, {0, 1}, make([]int, 9)} {
			checkTotal(t, m, p, 0, false)
		}
	}
}

// P8.2: lists that are too short or too long, also if their beginning is an assignment.
func TestTotalOfOtherLengths(t *testing.T) {
	for rows := 1; rows <= 8; rows++ {
		for columns := rows; columns <= 8; columns++ {
			m := filled(rows, columns, 3)
			for length := range 11 {
				want := 0
				if length == rows {
					want = 3 * rows
				}
				checkTotal(t, m, upTo(length), want, length == rows)
			}
			checkTotal(t, m, nil, 0, false)
			checkTotal(t, m, upTo(100000), 0, false)
			checkTotal(t, m, make([]int, 100000), 0, false)
		}
	}
}

// P8.2: one column that does not exist, at each place. Some of them are the same column as an existing one in fewer bits.
func TestTotalOfColumnsThatDoNotExist(t *testing.T) {
	for rows := 1; rows <= 8; rows++ {
		for columns := rows; columns <= 8; columns++ {
			m := filled(rows, columns, 3)
			for i := range rows {
				for _, k := range []int{-1, -columns, i - columns, i - 8, i - 64, i - 1<<32, math.MinInt, math.MinInt + i, columns, columns + 1, columns + i, i + 8, i + 16, i + 64, i + 256, i + 1<<32, math.MaxInt, math.MaxInt - i} {
					if k >= 0 && k < columns {
						continue
					}
					p := upTo(rows)
					p[i] = k
					checkTotal(t, m, p, 0, false)
				}
			}
		}
	}
}

// P8.2: a column twice, at any two places.
func TestTotalOfColumnsTwice(t *testing.T) {
	for rows := 2; rows <= 8; rows++ {
		for i := range rows {
			for j := range rows {
				if i != j {
					p := upTo(rows)
					p[i] = j
					checkTotal(t, filled(rows, 8, 1), p, 0, false)
					checkTotal(t, filled(rows, rows, 0), p, 0, false)
				}
			}
		}
	}
}

// P8.2, by the words of the chapter: all lists of up to four columns, with some that do not exist.
func TestTotalOfAllLists(t *testing.T) {
	r := source()
	yes := 0
	for rows := range 4 {
		for columns := max(rows, 1); columns <= 4; columns++ {
			m := randomMatrix(r, rows, columns)
			lists := [][]int{{}}
			for start := 0; start < len(lists); start++ {
				p := lists[start]
				want, ok := 0, isAssignment(m, p)
				if ok {
					want = sum(m, p)
					yes++
				}
				checkTotal(t, m, p, want, ok)
				for k := -1; k <= columns && len(p) < 4; k++ {
					lists = append(lists, append(slices.Clone(p), k))
				}
			}
		}
	}
	if yes != 4+(1+2+3+4)+(2+6+12)+(6+24) {
		t.Error(yes, "assignments")
	}
}

// P8.2: each assignment of matrices in which each cost is a digit of its own.
func TestTotalOfAllAssignments(t *testing.T) {
	m := make([][]int, 8)
	for i := range m {
		for k := range 8 {
			m[i] = append(m[i], []int{1, 10, 100, 1000, 10000, 100000, 7, 70}[i]*(k+1))
		}
	}
	for rows := range 9 {
		for _, p := range assignments(rows, 8) {
			checkTotal(t, m[:rows], p, sum(m[:rows], p), true)
		}
	}
}
