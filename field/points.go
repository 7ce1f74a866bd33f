package field

import (
	"iter"

	"fasti/api"
)

// different reports whether the X of points stand for pairwise different numbers.
func different(l []api.Point) bool {
	met := map[int]bool{}
	for _, p := range l {
		x := Mod(p.X)
		if met[x] {
			return false
		}
		met[x] = true
	}
	return true
}

// others yields the points but the one with the index i.
func others(l []api.Point, i int) iter.Seq[api.Point] {
	return func(yield func(p api.Point) bool) {
		for k, p := range l {
			if k != i && !yield(p) {
				return
			}
		}
	}
}

// weight returns the value at at of the polynomial that is 1 at the point i and 0 at the others (Lagrange's). The X of the points are different.
func weight(l []api.Point, i, at int) int {
	above, below := 1, 1
	for p := range others(l, i) {
		above = Mul(above, difference(at, p.X))
		below = Mul(below, difference(l[i].X, p.X))
	}
	return Mul(above, inverse(below))
}
