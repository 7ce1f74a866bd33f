package assign_test

import (
	"iter"
	"math/bits"
	"math/rand"
	"slices"

	"fasti/api"
	"fasti/assign"
)

// no is the element of a pair that is not permitted.
const no = -1

// grid returns costs whose elements a function tells.
func grid(rows, cols int, element func(i, j int) int) [][]int {
	cost := make([][]int, rows)
	for i := range cost {
		cost[i] = make([]int, cols)
		for j := range cost[i] {
			cost[i][j] = element(i, j)
		}
	}
	return cost
}

// same returns costs with one element in all places.
func same(rows, cols, x int) [][]int {
	return grid(rows, cols, func(i, j int) int { return x })
}

// with returns costs with another element at one place.
func with(cost [][]int, at, to, x int) [][]int {
	l := slices.Clone(cost)
	l[at] = slices.Clone(l[at])
	l[at][to] = x
	return l
}

// anyCosts returns costs by chance, of elements up to most. Of sixteen pairs about so many as closed says are forbidden.
func anyCosts(r *rand.Rand, rows, cols, most, closed int) [][]int {
	return grid(rows, cols, func(i, j int) int {
		if r.Intn(16) < closed {
			return no
		}
		return r.Intn(most + 1)
	})
}

// someCosts returns costs by chance of all sizes.
func someCosts(r *rand.Rand, count int) (l [][][]int) {
	for i := range count {
		most := []int{0, 1, 3, 100, 1 << 30}[i%5]
		cols := r.Intn(17)
		rows := min(1+r.Intn(16), max(cols, 1))
		l = append(l, anyCosts(r, rows, cols, most, r.Intn(14)))
	}
	return l
}

// all yields all costs of some size with elements from -1 to most.
func all(rows, cols, most int) iter.Seq[[][]int] {
	return func(yield func(cost [][]int) bool) {
		count := 1
		for range rows * cols {
			count *= most + 2
		}
		for code := range count {
			rest := code
			cost := grid(rows, cols, func(i, j int) int {
				x := rest % (most + 2)
				rest /= most + 2
				return x - 1
			})
			if !yield(cost) {
				return
			}
		}
	}
}

// assignments returns all assignments, in lexicographic order, and their costs.
func assignments(cost [][]int) (l [][]int, costs []int) {
	var add func(to []int, c int)
	add = func(to []int, c int) {
		if len(to) == len(cost) {
			l, costs = append(l, slices.Clone(to)), append(costs, c)
			return
		}
		for j, x := range cost[len(to)] {
			if x != no && !slices.Contains(to, j) {
				add(append(to, j), c+x)
			}
		}
	}
	add(nil, 0)
	return l, costs
}

// bestOf returns the best assignment of small costs, by looking at all of them.
func bestOf(cost [][]int) (to []int, c int, ok bool) {
	l, costs := assignments(cost)
	for i, x := range costs {
		if i == 0 || x < c {
			to, c, ok = l[i], x, true
		}
	}
	return to, c, ok
}

// never is the cost of what cannot be.
const never = 1 << 60

// reference returns the best assignment of costs of any size, by a table of what the last rows cost if some columns are taken.
func reference(cost [][]int) (to []int, c int, ok bool) {
	if len(cost) == 0 {
		return nil, 0, true
	}
	cols := len(cost[0])
	table := make([]int, 1<<cols)
	rest := func(i, taken, j int) int {
		if x := cost[i][j]; x != no && taken>>j&1 == 0 {
			return x + table[taken|1<<j]
		}
		return never
	}
	for taken := 1<<cols - 1; taken >= 0; taken-- {
		i := bits.OnesCount(uint(taken))
		if i >= len(cost) {
			continue
		}
		table[taken] = never
		for j := range cols {
			table[taken] = min(table[taken], rest(i, taken, j))
		}
	}
	if table[0] >= never {
		return nil, 0, false
	}
	taken := 0
	for i := range cost {
		j := 0
		for rest(i, taken, j) != table[taken] {
			j++
		}
		to, taken = append(to, j), taken|1<<j
	}
	return to, table[0], true
}

// deniedOf returns what Deny is to return, by comparing all sets of rows.
func deniedOf(cost [][]int) (rows []int, ok bool) {
	columns := make([]uint, 1<<len(cost)) // of each set of rows
	for set := 1; set < len(columns); set++ {
		last := bits.Len(uint(set)) - 1
		columns[set] = columns[set-1<<last]
		for j, x := range cost[last] {
			if x != no {
				columns[set] |= 1 << j
			}
		}
		size := bits.OnesCount(uint(set))
		if size <= bits.OnesCount(columns[set]) || ok && size > len(rows) {
			continue
		}
		if l := members(set); !ok || size < len(rows) || slices.Compare(l, rows) < 0 {
			rows, ok = l, true
		}
	}
	return rows, ok
}

// members returns the numbers of a set.
func members(set int) (l []int) {
	for i := range bits.Len(uint(set)) {
		if set>>i&1 == 1 {
			l = append(l, i)
		}
	}
	return l
}

// fits reports whether prices fit the costs, and returns their bound.
func fits(cost [][]int, u, v []int) (bound int, ok bool) {
	cols := 0
	if len(cost) > 0 {
		cols = len(cost[0])
	}
	if len(u) != len(cost) || len(v) != cols {
		return 0, false
	}
	for _, x := range u {
		if x < -1<<40 || x > 1<<40 {
			return 0, false
		}
		bound += x
	}
	for _, x := range v {
		if x < -1<<40 || x > 0 {
			return 0, false
		}
		bound += x
	}
	for i, row := range cost {
		for j, x := range row {
			if x != no && u[i]+v[j] > x {
				return 0, false
			}
		}
	}
	return bound, true
}

// best reports whether Best and Cost find an assignment.
func best(cost [][]int, to []int, c int) bool {
	l, n, ok, e := assign.Best(cost)
	m, f := assign.Cost(cost, to)
	return ok && e == api.OK && slices.Equal(l, to) && n == c && f == api.OK && m == c
}

// priced reports whether Prices returns prices that fit, with a bound, and Proves says so.
func priced(cost [][]int, bound int) bool {
	u, v, ok, e := assign.Prices(cost)
	n, right := fits(cost, u, v)
	m, proved, f := assign.Proves(cost, u, v)
	return ok && e == api.OK && right && n == bound && proved && f == api.OK && m == bound
}

// unsolved reports whether Best and Prices find nothing.
func unsolved(cost [][]int) bool {
	l, n, ok, e := assign.Best(cost)
	u, v, found, f := assign.Prices(cost)
	return len(l) == 0 && n == 0 && !ok && e == api.OK && len(u) == 0 && len(v) == 0 && !found && f == api.OK
}

// denied reports whether Deny returns some rows; it returns nothing if there are none.
func denied(cost [][]int, rows []int) bool {
	l, ok, e := assign.Deny(cost)
	return slices.Equal(l, rows) && ok == (len(rows) > 0) && e == api.OK
}

// solved reports whether all functions find what is right: the best assignment, which is told, or, without one, the rows that show it.
func solved(cost [][]int, to []int, c int, ok bool) bool {
	rows, _ := deniedOf(cost)
	if !ok {
		return unsolved(cost) && len(rows) > 0 && denied(cost, rows)
	}
	return best(cost, to, c) && priced(cost, c) && denied(cost, nil) && len(rows) == 0
}
