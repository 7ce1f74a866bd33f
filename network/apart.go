package network

import (
	"iter"
	"slices"
)

// link returns the pair of two parties, the lesser one first, so that both directions have the same pair.
func link(a, b int) [2]int { return [2]int{min(a, b), max(a, b)} }

func compare(p, q [2]int) int { return slices.Compare(p[:], q[:]) }

// ordered reports whether pairs are those of links, and strictly increasing.
func ordered(l [][2]int) bool {
	last := [2]int{-1, -1} // less than all links
	for _, p := range l {
		if !different(p[0], p[1]) || p != link(p[0], p[1]) || compare(last, p) >= 0 {
			return false
		}
		last = p
	}
	return true
}

// others yields the pairs other than p.
func others(l [][2]int, p [2]int) iter.Seq[[2]int] {
	return func(yield func(q [2]int) bool) {
		for _, q := range l {
			if q != p && !yield(q) {
				return
			}
		}
	}
}

// joined returns pairs with p among them, once, in increasing order.
func joined(l [][2]int, p [2]int) [][2]int {
	x := [][2]int{p}
	for q := range others(l, p) {
		x = append(x, q)
	}
	slices.SortFunc(x, compare)
	return x
}
