package assign_test

import (
	"math/rand"
	"slices"
	"testing"

	"fasti/api"
	"fasti/assign"
)

// found returns what Best returns; without an assignment, the cost never.
func found(t *testing.T, cost [][]int) (to []int, c int) {
	to, c, ok, e := assign.Best(cost)
	if e != api.OK {
		t.Fatal(cost, e)
	}
	if !ok {
		return nil, never
	}
	return to, c
}

// P14.3: there is an assignment, or there are rows with fewer columns than there are of them.
func TestOneOrTheOther(t *testing.T) {
	r := rand.New(rand.NewSource(5))
	met := [2]int{}
	for _, cost := range append(someCosts(r, 600), nil, [][]int{{}}, same(16, 16, 0), same(16, 16, no), same(16, 15, 0)) {
		to, c, ok, e := assign.Best(cost)
		rows, denied, f := assign.Deny(cost)
		if e != api.OK || f != api.OK || ok == denied {
			t.Fatal(cost)
		}
		if ok {
			met[0]++
			if n, e := assign.Cost(cost, to); e != api.OK || n != c {
				t.Fatal(cost)
			}
			continue
		}
		met[1]++
		columns := map[int]bool{}
		for k, i := range rows {
			if k > 0 && rows[k-1] >= i {
				t.Fatal(rows)
			}
			for j, x := range cost[i] {
				if x != no {
					columns[j] = true
				}
			}
		}
		if len(columns) >= len(rows) {
			t.Fatal(cost, rows)
		}
	}
	if met[0] < 100 || met[1] < 100 {
		t.Error(met)
	}
}

// P14.4: all assignments of small costs, and prices by chance.
func TestNoneBelowBound(t *testing.T) {
	r := rand.New(rand.NewSource(6))
	met := 0
	for range 2000 {
		cost := anyCosts(r, 1+r.Intn(3), 3+r.Intn(2), 6, 3)
		_, costs := assignments(cost)
		u, v, ok, e := assign.Prices(cost)
		if e != api.OK || ok != (len(costs) > 0) {
			t.Fatal(cost)
		}
		if !ok {
			continue
		}
		bound, ok, e := assign.Proves(cost, u, v)
		if e != api.OK || !ok || bound != slices.Min(costs) {
			t.Fatal(cost, u, v)
		}
		for range 50 {
			x, y := slices.Clone(u), slices.Clone(v)
			for i := range x {
				x[i] += r.Intn(5) - 2
			}
			for j := range y {
				y[j] += r.Intn(5) - 2
			}
			b, ok, e := assign.Proves(cost, x, y)
			if e != api.OK || b > bound {
				t.Fatal(cost, x, y)
			}
			if ok && b == bound {
				met++
			}
		}
	}
	if met < 100 {
		t.Error(met)
	}
}

// P14.4: any assignment of large costs, of which the best one is changed by chance.
func TestPricesProveBest(t *testing.T) {
	r := rand.New(rand.NewSource(7))
	for _, cost := range someCosts(r, 300) {
		to, c := found(t, cost)
		if c == never {
			continue
		}
		if !priced(cost, c) {
			t.Fatal(cost)
		}
		for range 50 {
			other := slices.Clone(to)
			for range 1 + r.Intn(3) {
				i, k := r.Intn(len(to)), r.Intn(len(to))
				other[i], other[k] = other[k], other[i]
				if j := r.Intn(len(cost[0])); !slices.Contains(other, j) {
					other[i] = j
				}
			}
			if n, e := assign.Cost(cost, other); e == api.OK && (n < c || n == c && slices.Compare(other, to) < 0) {
				t.Fatal(cost, other)
			}
		}
	}
}

// P14.5: a number is added to all permitted elements of a row.
func TestAdded(t *testing.T) {
	r := rand.New(rand.NewSource(8))
	for _, cost := range someCosts(r, 400) {
		to, c := found(t, cost)
		i := r.Intn(len(cost))
		var open []int
		for _, x := range cost[i] {
			if x != no {
				open = append(open, x)
			}
		}
		if len(open) == 0 {
			continue
		}
		least, greatest := slices.Min(open), slices.Max(open)
		for _, more := range []int{0, min(1, 1<<30-greatest), 1<<30 - greatest, -least, r.Intn(1<<30-greatest+least+1) - least} {
			other := slices.Clone(cost)
			other[i] = slices.Clone(cost[i])
			for j, x := range cost[i] {
				if x != no {
					other[i][j] = x + more
				}
			}
			l, n := found(t, other)
			if c == never && n != never || c != never && (n != c+more || !slices.Equal(l, to)) {
				t.Fatal(cost, i, more)
			}
		}
	}
}

// P14.5: pairs that the best assignment does not use are forbidden, one after the other.
func TestForbidden(t *testing.T) {
	r := rand.New(rand.NewSource(9))
	for _, cost := range someCosts(r, 100) {
		to, c := found(t, cost)
		if c == never {
			continue
		}
		for _, code := range r.Perm(len(cost) * len(cost[0])) {
			i, j := code/len(cost[0]), code%len(cost[0])
			if to[i] == j || cost[i][j] == no {
				continue
			}
			cost = with(cost, i, j, no)
			if !best(cost, to, c) {
				t.Fatal(cost, to, c)
			}
		}
		if !priced(cost, c) {
			t.Fatal(cost, c)
		}
	}
}

// P14.5: a further column, at any place.
func TestFurtherColumn(t *testing.T) {
	r := rand.New(rand.NewSource(10))
	cheaper := 0
	for i, cost := range someCosts(r, 400) {
		if len(cost[0]) == 16 {
			continue
		}
		_, c := found(t, cost)
		more := slices.Clone(cost)
		at := r.Intn(len(cost[0]) + 1)
		for k, row := range cost {
			x := no
			if r.Intn(2) == 0 {
				x = r.Intn([]int{1, 2, 4, 101, 1<<30 + 1}[i%5])
			}
			more[k] = slices.Insert(slices.Clone(row), at, x)
		}
		switch _, n := found(t, more); {
		case n > c:
			t.Fatal(cost, more)
		case n < c:
			cheaper++
		}
	}
	if cheaper < 50 {
		t.Error(cheaper)
	}
}

// P14.5: one row less.
func TestRowLess(t *testing.T) {
	r := rand.New(rand.NewSource(11))
	cheaper := 0
	for _, cost := range someCosts(r, 150) {
		_, c := found(t, cost)
		for i := range cost {
			switch _, n := found(t, slices.Delete(slices.Clone(cost), i, i+1)); {
			case n > c:
				t.Fatal(cost, i)
			case n < c:
				cheaper++
			}
		}
	}
	if cheaper < 50 {
		t.Error(cheaper)
	}
}

// R6: equal calls return equal results.
func TestEqualCalls(t *testing.T) {
	r := rand.New(rand.NewSource(12))
	for _, cost := range someCosts(r, 50) {
		u, v, _, _ := assign.Prices(cost)
		for range 5 {
			if x, y, _, _ := assign.Prices(cost); !slices.Equal(x, u) || !slices.Equal(y, v) {
				t.Fatal(cost)
			}
		}
	}
}
