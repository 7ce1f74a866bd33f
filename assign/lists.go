package assign

import "iter"

// columnSets returns the columns of each row, as bits.
func columnSets(cost [][]int) (sets []uint) {
	for _, row := range cost {
		set := uint(0)
		for j, x := range row {
			if x != forbidden {
				set |= 1 << j
			}
		}
		sets = append(sets, set)
	}
	return sets
}

// lists yields the lists of some of n rows, in increasing order: the shorter ones first, and those of one length lexicographically. What it yields holds until it goes on.
func lists(n int) iter.Seq[[]int] {
	return func(yield func(l []int) bool) {
		for size := 1; size <= n; size++ {
			l := make([]int, size)
			follow(l, -1)
			for more := true; more; more = next(l, n) {
				if !yield(l) {
					return
				}
			}
		}
	}
}

// follow fills a list with the numbers that follow x.
func follow(l []int, x int) {
	for k := range l {
		l[k] = x + 1 + k
	}
}

// next turns a list of some of n rows into the next one of its length, if there is one.
func next(l []int, n int) bool {
	for k := len(l) - 1; k >= 0; k-- {
		if l[k] < n-len(l)+k {
			follow(l[k:], l[k])
			return true
		}
	}
	return false
}
