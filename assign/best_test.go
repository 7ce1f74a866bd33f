package assign_test

import (
	"math/rand"
	"slices"
	"testing"
)

// P14.1, P14.2
func TestBest(t *testing.T) {
	for i, x := range []struct {
		cost [][]int
		to   []int
		c    int
	}{
		{nil, nil, 0}, {[][]int{}, nil, 0}, {[][]int{{5}}, []int{0}, 5}, {[][]int{{no, 5}}, []int{1}, 5}, {[][]int{{6, 5, 5, 6}}, []int{1}, 5}, {[][]int{{1 << 30}}, []int{0}, 1 << 30}, {[][]int{{no, 1 << 30, no}}, []int{1}, 1 << 30},
		{[][]int{{1, 2}, {1, 4}}, []int{1, 0}, 3}, {[][]int{{1, 2}, {2, 3}}, []int{0, 1}, 4}, {[][]int{{2, 1}, {3, 2}}, []int{0, 1}, 4}, {[][]int{{0, 0, 0}, {no, 0, 0}}, []int{0, 1}, 0}, {[][]int{{0, 0, 0}, {0, no, no}}, []int{1, 0}, 0},
		{[][]int{{0, 0, 0}, {0, no, no}, {no, 0, 0}}, []int{1, 0, 2}, 0}, {[][]int{{0, 0, 0}, {0, no, no}, {no, 0, no}}, []int{2, 0, 1}, 0}, {[][]int{{9, 9, 1}, {9, 9, 2}}, []int{2, 0}, 10}, {[][]int{{9, 9, 2}, {9, 9, 2}}, []int{0, 2}, 11}, {[][]int{{1, 1, 9}, {1, 9, 9}, {9, 1, 1}}, []int{1, 0, 2}, 3},
		{[][]int{{no, 0}, {1 << 30, no}}, []int{1, 0}, 1 << 30}, {[][]int{{1 << 30, 0}, {1 << 30, 0}}, []int{0, 1}, 1 << 30}, {[][]int{{0, 1 << 30}, {0, 1 << 30}}, []int{0, 1}, 1 << 30}, {[][]int{{0, 1 << 30}, {0, no}}, []int{1, 0}, 1 << 30},
	} {
		if !solved(x.cost, x.to, x.c, true) {
			t.Error(i)
		}
	}
}

// P14.1, P14.2: no assignment.
func TestNone(t *testing.T) {
	for i, cost := range [][][]int{
		{{}}, {nil}, {{}, {}}, make([][]int, 16), {{no}}, {{no, no}}, {{1}, {1}}, {{1, no}, {1, no}}, {{1, 2}, {no, no}}, {{1, 2}, {1, 2}, {1, 2}}, {{no, no, 1}, {1, 2, no}, {no, no, 3}}, {{1, no, 1}, {1, no, 1}, {1, no, 1}},
		same(16, 15, 1), same(16, 16, no), same(16, 1, 0), with(with(same(16, 16, no), 0, 0, 1), 15, 15, 1), same(2, 1, 1<<30),
	} {
		if !solved(cost, nil, 0, false) {
			t.Error(i)
		}
	}
}

// numbers returns n numbers in order, beginning with first.
func numbers(first, n int) (l []int) {
	for k := range n {
		l = append(l, first+k)
	}
	return l
}

// P14.1: among all assignments with the same cost the first one.
func TestLexicographic(t *testing.T) {
	for rows := 1; rows <= 16; rows++ {
		// A sum of a number for the row and one for the column: each assignment of all columns costs the same.
		sums := grid(rows, rows, func(i, j int) int { return 5*i + 7*j*j })
		if to := numbers(0, rows); !solved(sums, to, total(sums, to), true) {
			t.Error("sums", rows)
		}
		for cols := rows; cols <= 16; cols++ {
			if !best(same(rows, cols, 3), numbers(0, rows), 3*rows) {
				t.Error("equal", rows, cols)
			}
			// The last row takes the first column, so that all others move up.
			only := grid(rows, cols, func(i, j int) int {
				if i == rows-1 && j > 0 {
					return no
				}
				return 0
			})
			if !best(only, append(numbers(1, rows-1), 0), 0) {
				t.Error("moved", rows, cols)
			}
		}
	}
}

// total adds up the elements of an assignment.
func total(cost [][]int, to []int) (c int) {
	for i, j := range to {
		c += cost[i][j]
	}
	return c
}

// P14.1 to P14.4: all small costs.
func TestAllCosts(t *testing.T) {
	for _, x := range []struct{ rows, cols, most int }{
		{1, 1, 3}, {1, 2, 3}, {1, 3, 3}, {1, 4, 2}, {2, 1, 3}, {2, 2, 4}, {2, 3, 2}, {2, 4, 1}, {3, 1, 3}, {3, 2, 2}, {3, 3, 1}, {4, 2, 1}, {4, 3, 0}, {3, 4, 0}, {4, 4, 0}, {5, 2, 0},
	} {
		for cost := range all(x.rows, x.cols, x.most) {
			if to, c, ok := bestOf(cost); !solved(cost, to, c, ok) {
				t.Fatal(cost)
			}
		}
	}
}

// P14.1 to P14.4: all assignments of costs by chance.
func TestManyCosts(t *testing.T) {
	r := rand.New(rand.NewSource(1))
	met := [2]int{}
	for i := range 6000 {
		rows := r.Intn(6)
		cost := anyCosts(r, rows, max(r.Intn(7), rows-r.Intn(2)), []int{0, 1, 2, 5, 1 << 30}[i%5], r.Intn(13))
		to, c, ok := bestOf(cost)
		if !solved(cost, to, c, ok) {
			t.Fatal(cost)
		}
		if ok {
			met[0]++
		} else {
			met[1]++
		}
	}
	if met[0] < 1000 || met[1] < 1000 {
		t.Error(met)
	}
}

// P14.1 to P14.4: costs of all sizes, by a table.
func TestLargeCosts(t *testing.T) {
	r := rand.New(rand.NewSource(2))
	for i, cost := range someCosts(r, 300) {
		to, c, ok := reference(cost)
		if !solved(cost, to, c, ok) {
			t.Fatal(i, cost)
		}
	}
	for i := range 60 {
		cost := anyCosts(r, 14+r.Intn(3), 16, []int{0, 1, 2, 9, 1 << 30}[i%5], r.Intn(15))
		to, c, ok := reference(cost)
		if !solved(cost, to, c, ok) {
			t.Fatal(i, cost)
		}
	}
}

// P14.1: for the products of a number for the row and one for the column there is one cheapest order.
func TestProducts(t *testing.T) {
	for n := range 17 {
		cost := grid(n, n, func(i, j int) int { return (i + 1) * (j + 1) })
		to := numbers(0, n)
		slices.Reverse(to)
		if !solved(cost, to, total(cost, to), true) {
			t.Error(n)
		}
	}
}
