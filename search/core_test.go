package search_test

import (
	"math/rand"
	"slices"
	"testing"

	"fasti/api"
	"fasti/search"
)

// excluding returns, for each assignment of domains, a rule that it alone breaks.
func excluding(domains [][]int) (l []api.Rule) {
	rows := all(domains)
	for i := range rows {
		l = append(l, table(up(0, len(domains)), slices.Delete(slices.Clone(rows), i, i+1)...))
	}
	return l
}

// P15.3: rules each of which is broken by one assignment alone: all are needed.
func TestCoreAll(t *testing.T) {
	for i, sizes := range [][]int{{1}, {2}, {5}, {16}, {2, 2}, {3, 2, 4}, {7, 9}, {2, 2, 2, 2, 2, 2}, {16, 4}, {4, 16}, {1, 8, 1, 8}} {
		domains := sized(sizes...)
		rules := excluding(domains)
		if !refuted(problem(domains, rules...), up(0, len(rules))...) {
			t.Error(i)
		}
		for k, x := range all(domains) {
			if !solved(problem(domains, slices.Delete(slices.Clone(rules), k, k+1)...), x) {
				t.Error(i, k)
			}
		}
	}
}

// P15.3: of equal rules the last one remains, among rules that are not needed.
func TestCoreLast(t *testing.T) {
	domains := [][]int{{1, 2}, {5}}
	for _, n := range []int{1, 2, 3, 8, 31, 32, 33, 63, 64} {
		for at := range n {
			rules := slices.Repeat([]api.Rule{order(0, 1)}, n)
			rules[at] = never(0)
			if !refuted(problem(domains, rules...), at) {
				t.Error(n, at)
			}
			for k := at + 1; k < n; k += 7 {
				more := slices.Clone(rules)
				more[k] = never(1)
				if !refuted(problem(domains, more...), k) {
					t.Error(n, at, k)
				}
				more[at], more[k] = table([]int{0}, []int{2}, []int{3}), table([]int{0}, []int{1})
				if !refuted(problem(domains, more...), at, k) {
					t.Error(n, at, k)
				}
			}
		}
	}
}

// P15.3: rules in all orders, of which some contain others.
func TestCoreOrders(t *testing.T) {
	rules := []api.Rule{order(0, 1), order(1, 0), order(1, 2), order(2, 0), differ(0, 1, 2), apart(2, 0, 1, 2)}
	domains := alike(3, 0, 1, 2)
	cores := map[int]int{}
	for _, l := range all(alike(6, 0, 1, 2, 3, 4, 5)) {
		if !slices.Equal(slices.Sorted(slices.Values(l)), up(0, 6)) {
			continue
		}
		p := part(problem(domains, rules...), l)
		core, ok, e := search.Core(p)
		if e != api.OK || !ok || !slices.Equal(core, coreOf(p)) {
			t.Fatal(l, core, ok, e)
		}
		cores[len(core)]++
	}
	if len(cores) != 3 {
		t.Error(cores)
	}
}

// P15.5: the rules of the core have no solution, and have one without any of them.
func TestMinimal(t *testing.T) {
	r := rand.New(rand.NewSource(5))
	met := map[int]int{}
	for i := range 6000 {
		p := anyProblem(r, 1+r.Intn(5), 1+r.Intn(4), 1+r.Intn(10))
		if i%50 == 0 {
			p = anyProblem(r, 1+r.Intn(8), 1+r.Intn(4), 40+r.Intn(25))
		}
		core, ok, e := search.Core(p)
		if e != api.OK {
			t.Fatal(p, e)
		}
		if !ok {
			if x, solvable, _ := search.Solve(p); !solvable || len(core) > 0 {
				t.Fatal(p, x)
			}
			met[0]++
			continue
		}
		met[len(core)]++
		if _, solvable, e := search.Solve(part(p, core)); e != api.OK || solvable {
			t.Fatal(p, core)
		}
		if again, ok, e := search.Core(part(p, core)); e != api.OK || !ok || !slices.Equal(again, up(0, len(core))) {
			t.Fatal(p, core, again)
		}
		for k := range core {
			if k > 0 && core[k-1] >= core[k] {
				t.Fatal(core)
			}
			if _, solvable, e := search.Solve(part(p, slices.Delete(slices.Clone(core), k, k+1))); e != api.OK || !solvable {
				t.Fatal(p, core, k)
			}
		}
	}
	for n := range 4 {
		if met[n] < 20 {
			t.Error(met)
		}
	}
}
