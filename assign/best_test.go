package assign

import (
	"slices"
	"testing"

	"skiarea/api"
)

// askBest compares Best with the cost and the assignment that are wanted.
func askBest(t *testing.T, m [][]int, cost int, want ...int) {
	t.Helper()
	if p, n, e := Best(m); !slices.Equal(p, want) || n != cost || e != api.OK {
		t.Fatalf("%v: Best is %v, %v, %v, want %v, %v", m, p, n, e, want, cost)
	}
}

// P8.3
func TestBestExamples(t *testing.T) {
	askBest(t, example(), 5, 1, 0, 2)
	askBest(t, matrix(2, 1, 1, 1, 1), 2, 0, 1)
	askBest(t, matrix(3, 7, 5, 5), 5, 1)
	askBest(t, nil, 0)
	askBest(t, [][]int{}, 0)
	askBest(t, matrix(1, 0), 0, 0)
	askBest(t, matrix(1, million), million, 0)
	askBest(t, matrix(8, 8, 7, 6, 5, 4, 3, 2, 1), 1, 7)
	askBest(t, matrix(8, 1, 2, 3, 4, 5, 6, 7, 8), 1, 0)
	askBest(t, matrix(8, 4, 3, 3, 3, 3, 3, 3, 3), 3, 1)
	// The cheapest column of the first row, or the cheapest cost of all, makes the others dear.
	askBest(t, matrix(2, 1, 2, 1, 9), 3, 1, 0)
	askBest(t, matrix(2, 0, 5, 1, million), 6, 1, 0)
	askBest(t, matrix(3, 1, 2, 3, 2, 4, 6, 3, 6, 9), 10, 2, 1, 0)
	askBest(t, matrix(3, 0, 1, 9, 0, 9, 2, 9, 0, 0), 1, 1, 0, 2)
	askBest(t, matrix(3, 5, 0, 9, 0, 1, 9), 0, 1, 0)
	askBest(t, matrix(4, 9, 2, 7, 8, 6, 4, 3, 7, 5, 8, 1, 8, 7, 6, 9, 4), 13, 1, 0, 2, 3)
	// With more columns than rows, the dear ones stay free.
	askBest(t, matrix(4, 9, 9, 1, 2, 9, 9, 2, 4), 4, 3, 2)
	askBest(t, matrix(4, 9, 9, 1, 3, 9, 9, 2, 4), 5, 2, 3)
	askBest(t, matrix(3, million, million, 0, million, million, 0), million, 0, 2)
}

// P8.3: several assignments of the same least cost.
func TestBestOfTheSameCost(t *testing.T) {
	askBest(t, matrix(2, 2, 1, 1, 0), 2, 0, 1)
	askBest(t, matrix(2, 2, 1, 1, 1), 2, 1, 0)
	askBest(t, matrix(2, 3, 4, 5, 6), 9, 0, 1)
	askBest(t, matrix(3, 1, 1, 0, 0, 0, 0), 0, 2, 0)
	askBest(t, matrix(3, 1, 0, 0, 0, 0, 0), 0, 1, 0)
	askBest(t, matrix(3, 0, 0, 0, 1, 1, 0), 0, 0, 2)
	askBest(t, matrix(3, 0, 0, 0, 0, 0, 1), 0, 0, 1)
	askBest(t, matrix(3, 0, 0, 0, 0, 1, 1), 0, 1, 0)
	// The first row may use 0 or 1 for the same cost, the second one only 0 or 2, or 1.
	askBest(t, matrix(3, 5, 5, 9, 1, 7, 1), 6, 0, 2)
	askBest(t, matrix(3, 5, 5, 9, 7, 1, 1), 6, 0, 1)
	askBest(t, matrix(3, 5, 5, 9, 1, 7, 7), 6, 1, 0)
	// A dearer column for the first row, made up for by the second one, precedes.
	askBest(t, matrix(3, 2, 1, 9, 3, 2, 9), 4, 0, 1)
	askBest(t, matrix(3, 3, 1, 9, 3, 2, 9), 4, 1, 0)
	askBest(t, matrix(3, 9, 2, 1, 9, 3, 2), 4, 1, 2)
	for rows := 1; rows <= 8; rows++ {
		for columns := rows; columns <= 8; columns++ {
			for _, cost := range []int{0, 1, million} {
				askBest(t, filled(rows, columns, cost), rows*cost, upTo(rows)...)
			}
			// A cost for the row and one for the column: with as many columns as rows, all assignments cost the same.
			m := make([][]int, rows)
			for i := range m {
				for k := range columns {
					m[i] = append(m[i], 1000*i+k)
				}
			}
			askBest(t, m, 500*rows*(rows-1)+rows*(rows-1)/2, upTo(rows)...)
			// The other way round, the last columns are the cheapest ones.
			want := make([]int, rows)
			for i, row := range m {
				slices.Reverse(row)
				want[i] = columns - rows + i
			}
			askBest(t, m, 500*rows*(rows-1)+rows*(rows-1)/2, want...)
		}
	}
}

// allMatrices calls f with all matrices of a size with costs below bound.
func allMatrices(rows, columns, bound int, f func(m [][]int)) {
	m := filled(rows, columns, 0)
	for {
		f(m)
		place := 0
		for ; place < rows*columns; place++ {
			cost := &m[place/columns][place%columns]
			if *cost++; *cost < bound {
				break
			}
			*cost = 0
		}
		if place == rows*columns {
			return
		}
	}
}

// P8.3, by a search through all assignments: all matrices of some sizes with small costs.
func TestBestOfSmallMatrices(t *testing.T) {
	all := sizes{}
	for _, c := range [][3]int{{1, 1, 5}, {1, 2, 5}, {1, 3, 4}, {1, 4, 3}, {2, 2, 5}, {2, 3, 4}, {2, 4, 3}, {2, 5, 2}, {3, 3, 3}, {3, 4, 2}, {4, 4, 2}} {
		allMatrices(c[0], c[1], c[2], func(m [][]int) {
			want, cost := plainBest(m, all.of(m))
			askBest(t, m, cost, want...)
		})
	}
}

// P8.3 and P8.4, by a search through all assignments of up to 8 rows and columns.
func TestBestOfAnyMatrix(t *testing.T) {
	all := sizes{}
	several, notFirst, great := 0, 0, 0
	anyMatrices(source(), 3000, func(m [][]int) {
		want, cost := plainBest(m, all.of(m))
		askBest(t, m, cost, want...)
		checkTotal(t, m, want, cost, true)
		others := 0
		for _, p := range all.of(m) {
			n, ok := Total(m, p)
			if !ok || n < cost || n == cost && slices.Compare(p, want) < 0 {
				t.Fatalf("%v: %v, %v, %v is better than %v, %v", m, p, n, ok, want, cost)
			}
			if n == cost {
				others++
			}
		}
		if others > 1 {
			several++
		}
		if !slices.Equal(want, upTo(len(m))) {
			notFirst++
		}
		if len(m) == 8 {
			great++
		}
	})
	if several < 500 || notFirst < 1000 || great < 20 {
		t.Error("only", several, "matrices with several best assignments,", notFirst, "with another than the first one,", great, "with 8 rows")
	}
}

// P8.3: 8 rows of 8 columns, by a search through all 40320 assignments.
func TestBestOfGreatMatrices(t *testing.T) {
	r := source()
	all := assignments(8, 8)
	for range 150 {
		m := randomMatrix(r, 8, 8)
		want, cost := plainBest(m, all)
		askBest(t, m, cost, want...)
	}
}

// P8.4: each assignment is the best one of some matrix: the others cost more in at least one row.
func TestBestIsAnyAssignment(t *testing.T) {
	for rows := range 9 {
		for columns := rows; columns <= 8; columns++ {
			m := filled(rows, columns, million)
			for _, p := range assignments(rows, columns) {
				for i, k := range p {
					m[i][k] = million - 1
				}
				askBest(t, m, rows*(million-1), p...)
				for i, k := range p {
					m[i][k] = million
				}
			}
		}
	}
}

// bestOf is the result of Best.
func bestOf(t *testing.T, m [][]int) ([]int, int) {
	t.Helper()
	p, n, e := Best(m)
	if got, ok := Total(m, p); e != api.OK || !ok || got != n {
		t.Fatalf("%v: %v, %v, %v, but the total cost is %v, %v", m, p, n, e, got, ok)
	}
	return p, n
}

// P8.5: a further column, at any place.
func TestFurtherColumn(t *testing.T) {
	r := source()
	less, same := 0, 0
	anyMatrices(r, 3000, func(m [][]int) {
		if len(m) == 0 || len(m[0]) == 8 {
			return
		}
		p, before := bestOf(t, m)
		wider, dear := clone(m), clone(m)
		place := r.IntN(len(m[0]) + 1)
		for i, row := range m {
			wider[i] = slices.Insert(wider[i], place, row[r.IntN(len(row))])
			dear[i] = append(dear[i], million)
		}
		_, after := bestOf(t, wider)
		if after > before {
			t.Fatalf("%v: %v, and with a further column %v at %v: %v", m, before, wider, place, after)
		}
		if after < before {
			less++
		} else {
			same++
		}
		// A last column that costs more than all rows together stays free.
		if before < million {
			askBest(t, dear, before, p...)
		}
	})
	if less < 100 || same < 500 {
		t.Error("only", less, "matrices become cheaper,", same, "stay")
	}
}

// P8.5: a constant added to all costs of a row, also one below 0.
func TestConstantAddedToRow(t *testing.T) {
	r := source()
	added, subtracted := 0, 0
	anyMatrices(r, 3000, func(m [][]int) {
		if len(m) == 0 {
			return
		}
		p, before := bestOf(t, m)
		i := r.IntN(len(m))
		least, most := -slices.Min(m[i]), million-slices.Max(m[i])
		n := least + r.IntN(most-least+1)
		switch r.IntN(4) {
		case 0:
			n = least
		case 1:
			n = most
		}
		changed := clone(m)
		for k := range changed[i] {
			changed[i][k] += n
		}
		askBest(t, changed, before+n, p...)
		if n > 0 {
			added++
		} else if n < 0 {
			subtracted++
		}
	})
	if added < 1000 || subtracted < 200 {
		t.Error("only", added, "constants above 0 and", subtracted, "below")
	}
}

// P8.5: rows that are exchanged.
func TestExchangedRows(t *testing.T) {
	r := source()
	moved := 0
	anyMatrices(r, 3000, func(m [][]int) {
		_, before := bestOf(t, m)
		changed := clone(m)
		r.Shuffle(len(changed), func(i, j int) { changed[i], changed[j] = changed[j], changed[i] })
		if _, after := bestOf(t, changed); after != before {
			t.Fatalf("%v: %v, and with exchanged rows %v: %v", m, before, changed, after)
		}
		if !slices.EqualFunc(m, changed, slices.Equal) {
			moved++
		}
	})
	if moved < 900 {
		t.Error("only", moved, "matrices were changed")
	}
}

// P8.3 and P8.5: a row of zeros costs nothing where a column is free. As the last row it takes the first free one, and the others stay.
func TestRowOfZeros(t *testing.T) {
	r := source()
	tried := 0
	anyMatrices(r, 3000, func(m [][]int) {
		if len(m) == 0 || len(m) == len(m[0]) {
			return
		}
		tried++
		p, before := bestOf(t, m)
		free := 0
		for slices.Contains(p, free) {
			free++
		}
		zeros := make([]int, len(m[0]))
		askBest(t, append(clone(m), zeros), before, append(slices.Clone(p), free)...)
		if _, after := bestOf(t, slices.Insert(clone(m), r.IntN(len(m)+1), zeros)); after != before {
			t.Fatalf("%v: %v, and with a row of zeros: %v", m, before, after)
		}
	})
	if tried < 1000 {
		t.Error("only", tried, "matrices with a free column")
	}
}

// P8.3: a row of zeros with no free column takes the one that the other rows can do without best.
func TestRowOfZerosInSquare(t *testing.T) {
	askBest(t, matrix(3, 0, 0, 0, 1, 5, 3, 5, 1, 9), 2, 2, 0, 1)
	askBest(t, matrix(3, 1, 5, 3, 0, 0, 0, 5, 1, 9), 2, 0, 2, 1)
	askBest(t, matrix(3, 1, 5, 3, 5, 1, 9, 0, 0, 0), 2, 0, 1, 2)
	askBest(t, matrix(3, 0, 0, 0, 9, 5, 3, 9, 1, 9), 4, 0, 2, 1)
	askBest(t, matrix(2, 0, 0, 3, 3), 3, 0, 1)
	askBest(t, matrix(2, 0, 0, 2, 3), 2, 1, 0)
}
