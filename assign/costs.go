package assign

import "fasti/api"

// forbidden is the element of a pair that is not permitted.
const forbidden = -1

// most is the greatest price.
const most = 1 << 40

// small reports whether costs have no more rows than are admitted, and no row more elements.
func small(cost [][]int) bool {
	if len(cost) > api.MaxRows {
		return false
	}
	for _, row := range cost {
		if len(row) > api.MaxRows {
			return false
		}
	}
	return true
}

// right reports whether all rows have the same number of elements, and each element is a cost or forbids its pair.
func right(cost [][]int) bool {
	for _, row := range cost {
		if len(row) != columns(cost) {
			return false
		}
		for _, x := range row {
			if x != forbidden && (x < 0 || x > api.MaxCap) {
				return false
			}
		}
	}
	return true
}

// columns returns the number of columns, of which there are none without rows.
func columns(cost [][]int) int {
	if len(cost) == 0 {
		return 0
	}
	return len(cost[0])
}

// assigns reports whether a list has a column for each row, no column twice, and permitted pairs only.
func assigns(cost [][]int, to []int) bool {
	if len(to) != len(cost) {
		return false
	}
	var taken [api.MaxRows]bool
	for i, j := range to {
		if j < 0 || j >= columns(cost) || taken[j] || cost[i][j] == forbidden {
			return false
		}
		taken[j] = true
	}
	return true
}

// fit reports whether two lists are prices that fit the costs.
func fit(cost [][]int, u, v []int) bool {
	if len(u) != len(cost) || len(v) != columns(cost) || !between(u, most) || !between(v, 0) {
		return false
	}
	for i, row := range cost {
		for j, x := range row {
			if x != forbidden && u[i]+v[j] > x {
				return false
			}
		}
	}
	return true
}

// between reports whether all numbers of a list are prices, and none is greater than top. So their sums do not overflow.
func between(l []int, top int) bool {
	for _, x := range l {
		if x < -most || x > top {
			return false
		}
	}
	return true
}

// sum returns the sum of a list.
func sum(l []int) (s int) {
	for _, x := range l {
		s += x
	}
	return s
}
