package assign_test

import (
	"math"
	"math/rand"
	"slices"
	"testing"

	"fasti/api"
	"fasti/assign"
)

// proves reports whether Proves returns what the definition says.
func proves(cost [][]int, u, v []int) bool {
	want, right := fits(cost, u, v)
	bound, ok, e := assign.Proves(cost, u, v)
	return e == api.OK && bound == want && ok == right
}

// P14.2
func TestProves(t *testing.T) {
	two := [][]int{{1, 2}, {1, 4}}
	for i, x := range []struct {
		cost  [][]int
		u, v  []int
		bound int
		ok    bool
	}{
		{nil, nil, nil, 0, true}, {nil, []int{}, []int{}, 0, true}, {nil, []int{0}, nil, 0, false}, {nil, nil, []int{0}, 0, false}, {[][]int{{}}, []int{7}, nil, 7, true}, {[][]int{{}}, nil, nil, 0, false}, {[][]int{{}}, []int{7}, []int{0}, 0, false},
		{two, []int{2, 2}, []int{-1, 0}, 3, true}, {two, []int{1, 1}, []int{0, 0}, 2, true}, {two, []int{2, 2}, []int{-2, 0}, 2, true}, {two, []int{0, 0}, []int{0, 0}, 0, true}, {two, []int{1, -1}, []int{0, 0}, 0, true}, {two, []int{-5, -5}, []int{-5, -5}, -20, true},
		{two, []int{2, 2}, []int{0, 0}, 0, false}, {two, []int{2, 3}, []int{-1, 0}, 0, false}, {two, []int{3, 2}, []int{-1, 0}, 0, false}, {two, []int{0, 0}, []int{1, 0}, 0, false}, {two, []int{-9, -9}, []int{0, 1}, 0, false},
		{two, []int{2}, []int{-1, 0}, 0, false}, {two, []int{2, 2}, []int{-1}, 0, false}, {two, []int{2, 2, 0}, []int{-1, 0}, 0, false}, {two, []int{2, 2}, []int{-1, 0, 0}, 0, false}, {two, nil, nil, 0, false}, {two, nil, []int{-1, 0}, 0, false}, {two, []int{2, 2}, nil, 0, false},
		{[][]int{{no, 2}, {1, no}}, []int{2, 1}, []int{0, 0}, 3, true}, {[][]int{{no, 2}, {1, no}}, []int{3, 4}, []int{-3, -1}, 3, true}, {[][]int{{no, 2}, {1, no}}, []int{3, 1}, []int{0, 0}, 0, false}, {[][]int{{no, no}}, []int{1 << 40}, []int{0, -1}, 1<<40 - 1, true},
		{[][]int{{no}}, []int{0}, []int{0}, 0, true}, {[][]int{{0}}, []int{-1}, []int{0}, -1, true}, {[][]int{{0}}, []int{1}, []int{-1}, 0, true}, {[][]int{{0}}, []int{1}, []int{0}, 0, false},
	} {
		if bound, ok, e := assign.Proves(x.cost, x.u, x.v); e != api.OK || bound != x.bound || ok != x.ok {
			t.Error(i, bound, ok, e)
		}
	}
}

// P14.2: the greatest and the least prices, and others. Sums that would be right modulo 2^64 do not help.
func TestProvesRange(t *testing.T) {
	prices := append([]int{-1<<40 + 1, -1, 0, 1, 1 << 30, 1<<40 - 1, 1<<40 + 1}, edges...)
	for _, cost := range [][][]int{{{no, no}, {no, no}}, {{0, no}, {no, 0}}, {{no, 5}, {1 << 30, no}}, {{1 << 30, 1 << 30}, {0, 0}}} {
		for _, x := range prices {
			for _, y := range prices {
				for _, p := range [][4]int{{x, y, 0, 0}, {x, 0, y, 0}, {x, 0, 0, y}, {0, x, y, 0}, {0, x, 0, y}, {0, 0, x, y}, {x, x, y, y}, {x, y, x, y}} {
					if !proves(cost, p[:2], p[2:]) {
						t.Error(cost, p)
					}
				}
			}
		}
	}
	if bound, ok, e := assign.Proves(same(16, 16, no), slices.Repeat([]int{1 << 40}, 16), make([]int, 16)); bound != 1<<44 || !ok || e != api.OK {
		t.Error(bound, ok, e)
	}
	if bound, ok, e := assign.Proves(same(16, 16, 0), slices.Repeat([]int{-1 << 40}, 16), slices.Repeat([]int{-1 << 40}, 16)); bound != -1<<45 || !ok || e != api.OK {
		t.Error(bound, ok, e)
	}
	if bound, ok, e := assign.Proves([][]int{{0}}, []int{math.MaxInt}, []int{math.MinInt}); bound != 0 || ok || e != api.OK {
		t.Error(bound, ok, e)
	}
}

// P14.2: all small prices of small costs.
func TestAllPrices(t *testing.T) {
	r := rand.New(rand.NewSource(3))
	for range 100 {
		cost := anyCosts(r, 2, 3, 3, 4)
		for code := range 7 * 7 * 4 * 4 * 4 {
			u := []int{code%7 - 2, code/7%7 - 2}
			v := []int{code/49%4 - 2, code/49/4%4 - 2, code/49/16 - 2}
			if !proves(cost, u, v) {
				t.Fatal(cost, u, v)
			}
		}
	}
}

// P14.2: Prices stays within the range though each further row turns round what all rows before it have: these are the costs whose prices are far from 0.
func TestPricesFar(t *testing.T) {
	high := 1 << 30
	for n := 1; n <= 16; n++ {
		for i, element := range []func(i, j int) int{
			func(i, j int) int { return high * ((i + j) % 2) },
			func(i, j int) int { return high * (i * j % 2) },
			func(i, j int) int { return high / 225 * i * j },
			func(i, j int) int { return high - high/225*i*j },
			func(i, j int) int { // each row but the last one has the next column to go to
				switch {
				case j == i, i == n-1 && j == 0:
					return 0
				case j == i+1:
					return high
				}
				return no
			},
			func(i, j int) int { // the last row can only have what the first one has, and so on
				switch {
				case i == j+1, i == 0 && j == 0:
					return 0
				case i == j:
					return high
				}
				return no
			},
			func(i, j int) int { // a way through all columns, in which free and dear pairs alternate
				switch {
				case j == n-1-i:
					return 0
				case j == n-i || i == 0:
					return high
				}
				return no
			},
		} {
			cost := grid(n, n, element)
			for _, c := range [][][]int{cost, reversed(cost)} {
				to, least, ok := reference(c)
				if !solved(c, to, least, ok) {
					t.Error(n, i)
				}
			}
		}
	}
}

// reversed returns the rows in the other order.
func reversed(cost [][]int) [][]int {
	l := slices.Clone(cost)
	slices.Reverse(l)
	return l
}
