package assign_test

import (
	"math/rand"
	"testing"
)

// rowsOf returns costs in whose rows columns are permitted, as digits of the base 2.
func rowsOf(cols int, sets ...int) [][]int {
	return grid(len(sets), cols, func(i, j int) int { return sets[i]>>j&1 - 1 })
}

// P14.2
func TestDeny(t *testing.T) {
	for i, x := range []struct {
		cost [][]int
		rows []int
	}{
		{nil, nil}, {[][]int{{}}, []int{0}}, {[][]int{{}, {}}, []int{0}}, {[][]int{{no}}, []int{0}}, {[][]int{{0}}, nil}, {[][]int{{1 << 30}}, nil}, {[][]int{{0}, {0}}, []int{0, 1}}, {[][]int{{5, no}, {6, no}}, []int{0, 1}}, {[][]int{{5, no}, {6, 7}}, nil},
		{rowsOf(2, 3, 0), []int{1}}, {rowsOf(2, 3, 0, 0), []int{1}}, {rowsOf(2, 0, 3, 0), []int{0}}, {rowsOf(3, 7, 7, 7), nil}, {rowsOf(3, 7, 7, 7, 7), []int{0, 1, 2, 3}}, {rowsOf(3, 3, 3, 3, 7), []int{0, 1, 2}}, {rowsOf(3, 7, 3, 3, 3), []int{1, 2, 3}},
		{rowsOf(2, 3, 3, 3, 3), []int{0, 1, 2}}, {rowsOf(4, 3, 12, 8, 4), []int{1, 2, 3}}, {rowsOf(4, 3, 1, 2, 15), []int{0, 1, 2}}, {rowsOf(4, 1, 2, 4, 8), nil}, {rowsOf(4, 1, 2, 4, 4), []int{2, 3}}, {rowsOf(4, 4, 2, 4, 2), []int{0, 2}}, {rowsOf(4, 2, 4, 4, 2), []int{0, 3}},
		{rowsOf(4, 3, 3, 3, 8, 8), []int{3, 4}}, {rowsOf(4, 8, 3, 3, 3, 8), []int{0, 4}}, {rowsOf(4, 3, 3, 3, 8, 8, 0), []int{5}}, {rowsOf(8, 7, 7, 7, 7, 248, 248, 248, 248, 248, 248), []int{0, 1, 2, 3}}, {rowsOf(3, 3, 5, 6, 3), []int{0, 1, 2, 3}}, {rowsOf(4, 3, 6, 5, 15, 6), []int{0, 1, 2, 4}},
		{rowsOf(4, 15, 1, 8, 1, 8), []int{1, 3}}, {rowsOf(4, 15, 8, 1, 8, 1), []int{1, 3}}, {rowsOf(4, 15, 1, 8, 8, 1), []int{1, 4}}, {rowsOf(6, 3, 48, 3, 48, 48, 3), []int{0, 2, 5}}, {rowsOf(6, 48, 3, 3, 48, 48, 3), []int{0, 3, 4}},
	} {
		if want, ok := deniedOf(x.cost); !denied(x.cost, x.rows) || len(want) != len(x.rows) || ok != (len(x.rows) > 0) {
			t.Error(i)
		}
	}
}

// P14.2: any number of rows with too few columns at any places, among rows that have all columns.
func TestDenyAnywhere(t *testing.T) {
	for rows := 1; rows <= 16; rows++ {
		for size := 1; size <= rows; size++ {
			for first := range rows - size + 1 {
				cost := same(rows, 16, 4)
				for i := first; i < first+size; i++ {
					for j := size - 1; j < 16; j++ {
						cost[i][j] = no
					}
				}
				if !denied(cost, numbers(first, size)) || !unsolved(cost) {
					t.Error(rows, size, first)
				}
			}
		}
	}
	for cols := range 16 {
		if !denied(same(16, cols, 0), numbers(0, cols+1)) {
			t.Error(cols)
		}
	}
}

// P14.2: two groups of rows of which both have too few columns: the shorter one counts, or the first one.
func TestDenyFirst(t *testing.T) {
	for a := 1; a <= 8; a++ {
		for b := 1; b <= 8; b++ {
			cost := grid(a+b, 16, func(i, j int) int {
				if i < a && j < a-1 || i >= a && j >= 8 && j < 8+b-1 {
					return 0
				}
				return no
			})
			want := numbers(0, a)
			if b < a {
				want = numbers(a, b)
			}
			if !denied(cost, want) {
				t.Error(a, b)
			}
		}
	}
}

// P14.2, P14.3: costs by chance with few permitted pairs.
func TestDenyMany(t *testing.T) {
	r := rand.New(rand.NewSource(4))
	sizes := map[int]int{}
	for range 4000 {
		rows := 1 + r.Intn(9)
		cost := anyCosts(r, rows, max(1, rows+r.Intn(4)-2), 3, 4+r.Intn(11))
		want, _ := deniedOf(cost)
		if !denied(cost, want) {
			t.Fatal(cost)
		}
		sizes[len(want)]++
	}
	for size := range 5 {
		if sizes[size] < 10 {
			t.Error(sizes)
		}
	}
	for range 60 {
		cost := anyCosts(r, 12+r.Intn(5), 16, 3, 9+r.Intn(5))
		if want, _ := deniedOf(cost); !denied(cost, want) {
			t.Fatal(cost)
		}
	}
}
