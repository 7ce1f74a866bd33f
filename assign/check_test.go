package assign_test

import (
	"math"
	"slices"
	"testing"

	"fasti/api"
	"fasti/assign"
)

var edges = []int{math.MinInt, math.MinInt + 1, -1<<40 - 1, -1 << 40, -1 << 32, -1<<32 + 1, -1 << 31, -1 << 30, -17, -16, -3, -2, 1<<30 + 1, 1<<30 + 2, 1 << 31, 1<<32 - 1, 1 << 32, 1<<32 + 1, 1 << 40, math.MaxInt - 1, math.MaxInt}

// fails reports whether all functions return an error for costs, and nothing else.
func fails(cost [][]int, want api.Errno) bool {
	c, e := assign.Cost(cost, make([]int, len(cost)))
	to, n, ok, f := assign.Best(cost)
	u, v, priced, g := assign.Prices(cost)
	bound, proved, h := assign.Proves(cost, make([]int, len(cost)), nil)
	rows, denied, k := assign.Deny(cost)
	return assign.Check(cost) == want && e == want && f == want && g == want && h == want && k == want && c == 0 &&
		len(to) == 0 && n == 0 && !ok && len(u) == 0 && len(v) == 0 && !priced && bound == 0 && !proved && len(rows) == 0 && !denied
}

// P14.1
func TestCheckAccepts(t *testing.T) {
	for rows := range 17 {
		for cols := range 17 {
			for _, x := range []int{no, 0, 1, 1<<30 - 1, 1 << 30} {
				if e := assign.Check(same(rows, cols, x)); e != api.OK {
					t.Error(rows, cols, x, e)
				}
			}
		}
	}
	for i, cost := range [][][]int{
		nil, {}, {nil}, {{}}, {nil, {}}, {{}, nil, {}}, make([][]int, 16), {{no, 0, 1 << 30}}, {{no}, {0}, {1 << 30}}, {make([]int, 16)},
	} {
		if e := assign.Check(cost); e != api.OK {
			t.Error(i, e)
		}
	}
}

// P14.1: too many rows or elements count before all that is wrong beside them, wherever it is.
func TestCheckLimit(t *testing.T) {
	long := func(n int) []int { return make([]int, n) }
	for i, cost := range [][][]int{
		make([][]int, 17), make([][]int, 18), make([][]int, 32), make([][]int, 1000), same(17, 1, 1), same(17, 16, no), same(17, 17, 0), {long(17)}, {long(32)}, {long(1000)},
		{long(17), long(17)}, {long(16), long(17)}, {long(17), long(16)}, {nil, long(17)}, {long(17), nil}, {{-2}, long(17)}, {{1 << 31}, {1, 2}, long(17)}, {{1, 2}, {1}, long(17)},
		append(same(16, 2, 1), []int{1, 2, 3}), append(same(16, 2, -2), []int{1, 2}), append(same(15, 16, 3), long(17)), {slices.Repeat([]int{-2}, 17)},
	} {
		if !fails(cost, api.ErrLimit) {
			t.Error(i, assign.Check(cost))
		}
	}
}

// P14.1: each place of a row may be wrong, as the only one.
func TestCheckElements(t *testing.T) {
	for _, x := range edges {
		for _, size := range [][2]int{{1, 1}, {1, 16}, {16, 1}, {2, 3}, {5, 5}, {16, 16}} {
			for i := range size[0] {
				for j := range size[1] {
					if cost := with(same(size[0], size[1], 7), i, j, x); !fails(cost, api.ErrCost) {
						t.Error(x, size, i, j, assign.Check(cost))
					}
				}
			}
		}
	}
}

// P14.1: rows that do not have equally many elements.
func TestCheckRows(t *testing.T) {
	for i, cost := range [][][]int{
		{{1, 2}, {1}}, {{1}, {1, 2}}, {nil, {1}}, {{1}, nil}, {{}, {}, {1}}, {{1, 2}, {1, 2}, {1, 2, 3}}, {{1, 2}, {1, 2, 3}, {1}}, {{1, 2}, nil, {1, 2}}, {{no}, {no, no}},
		append(same(15, 16, 1), make([]int, 15)), append(same(15, 15, 1), make([]int, 16)), append([][]int{{1}}, make([][]int, 15)...), append(make([][]int, 15), []int{0}),
		{{1}, {-2, 1}}, {{-2}, {}},
	} {
		if !fails(cost, api.ErrCost) {
			t.Error(i, assign.Check(cost))
		}
	}
}

// P14.1
func TestCost(t *testing.T) {
	high := same(16, 16, 1<<30)
	line := grid(16, 16, func(i, j int) int { return 100*i + j })
	var back []int
	for j := range 16 {
		back = append(back, 15-j)
	}
	for i, x := range []struct {
		cost [][]int
		to   []int
		c    int
	}{
		{nil, nil, 0}, {[][]int{}, []int{}, 0}, {nil, []int{}, 0}, {[][]int{{5}}, []int{0}, 5}, {[][]int{{0}}, []int{0}, 0}, {[][]int{{5, 6, no}}, []int{1}, 6},
		{[][]int{{1, 2}, {1, 4}}, []int{1, 0}, 3}, {[][]int{{1, 2}, {1, 4}}, []int{0, 1}, 5}, {[][]int{{no, 2, 9}, {1, no, 8}}, []int{2, 0}, 10}, {[][]int{{no, 2, 9}, {1, no, 8}}, []int{1, 2}, 10},
		{high, back, 1 << 34}, {line, back, 12120}, {line[:15], back[:15], 10500 + 120},
	} {
		if c, e := assign.Cost(x.cost, x.to); e != api.OK || c != x.c {
			t.Error(i, c, e)
		}
	}
}

// P14.1: what is no assignment.
func TestNoAssignment(t *testing.T) {
	three := [][]int{{1, 2, no, 3}, {4, 5, 6, 7}, {no, no, no, 8}}
	wrong := func(cost [][]int, to ...int) {
		if c, e := assign.Cost(cost, to); e != api.ErrCost || c != 0 {
			t.Error(cost, to, c, e)
		}
	}
	if c, e := assign.Cost(three, []int{1, 0, 3}); e != api.OK || c != 14 {
		t.Error(c, e)
	}
	for _, to := range [][]int{
		nil, {}, {1}, {1, 0}, {1, 0, 3, 2}, {2, 0, 3}, {1, 2, 0}, {1, 2, 2}, {3, 2, 3}, {1, 1, 3}, {0, 0, 3}, {0, 3, 3}, {1, 3, 3}, {0, 1, 2}, {0, 1, 4}, {4, 0, 3}, {-1, 0, 3}, {0, -1, 3}, {0, 1, -1}, {no, no, no}, {16, 0, 3}, {0, 1, 1<<32 + 3},
	} {
		wrong(three, to...)
	}
	for _, x := range edges {
		wrong(three, x, 0, 3)
		wrong(three, 0, x, 3)
		wrong(three, 0, 1, x)
		wrong(nil, x)
		wrong([][]int{{}}, x)
	}
	wrong(nil, 0)
	wrong([][]int{{}})
	wrong([][]int{{}}, 0)
	wrong([][]int{{no}}, 0)
	wrong([][]int{{5}}, 1)
	wrong([][]int{{5}, {5}}, 0, 0)
	wrong(same(16, 16, 1), make([]int, 16)...)
	wrong(same(16, 16, 1), make([]int, 17)...)
	wrong(same(16, 16, 1), make([]int, 1000)...)
}

// P14.1: all lists of columns of small costs.
func TestAllAssignments(t *testing.T) {
	for i, cost := range [][][]int{
		{{1, 2, 3, 4}, {10, no, 30, 40}, {100, 200, 300, no}}, {{5, no}, {6, 7}, {no, 8}}, {{1, 20, 300}, {4, 50, 600}, {7, 80, 900}}, same(3, 4, 1<<30), same(3, 3, no),
	} {
		l, costs := assignments(cost)
		for code := range 6 * 6 * 6 {
			to := []int{code%6 - 1, code/6%6 - 1, code/36 - 1}
			c, e := assign.Cost(cost, to)
			k := slices.IndexFunc(l, func(x []int) bool { return slices.Equal(x, to) })
			switch {
			case k < 0 && (e != api.ErrCost || c != 0), k >= 0 && (e != api.OK || c != costs[k]):
				t.Error(i, to, c, e)
			}
		}
	}
}

// R2: no call changes its arguments, or a result of an earlier call.
func TestPure(t *testing.T) {
	cost := [][]int{{3, 1, no, 2}, {1, 1, 4, no}, {1, no, 5, 9}}
	before := grid(3, 4, func(i, j int) int { return cost[i][j] })
	few := [][]int{{1, no}, {2, no}, {3, 4}}
	to, _, _, _ := assign.Best(cost)
	u, v, _, _ := assign.Prices(cost)
	rows, _, _ := assign.Deny(few)
	a, b, c, d := slices.Clone(to), slices.Clone(u), slices.Clone(v), slices.Clone(rows)
	for range 3 {
		l, _, _, _ := assign.Best(cost)
		x, y, _, _ := assign.Prices(cost)
		z, _, _ := assign.Deny(few)
		assign.Cost(cost, to)
		assign.Proves(cost, u, v)
		if !slices.Equal(l, a) || !slices.Equal(x, b) || !slices.Equal(y, c) || !slices.Equal(z, d) {
			t.Error(l, x, y, z)
		}
		clear(l)
		clear(x)
		clear(y)
		clear(z)
	}
	if !slices.Equal(to, a) || !slices.Equal(u, b) || !slices.Equal(v, c) || !slices.Equal(rows, d) {
		t.Error(to, u, v, rows)
	}
	if !slices.EqualFunc(cost, before, slices.Equal) || !slices.EqualFunc(few, [][]int{{1, no}, {2, no}, {3, 4}}, slices.Equal) {
		t.Error(cost, few)
	}
}
