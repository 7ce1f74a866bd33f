package search_test

import (
	"math"
	"math/rand"
	"slices"
	"testing"

	"fasti/api"
	"fasti/search"
)

// P15.1
func TestSolve(t *testing.T) {
	three := alike(3, 0, 1, 2)
	for i, x := range []struct {
		p api.Problem
		x []int
	}{
		{problem([][]int{{4}}), []int{4}}, {problem([][]int{{3, 9}, {0}, {7, 8}}), []int{3, 0, 7}}, {problem(alike(2, 1, 2), order(0, 1)), []int{1, 2}}, {problem(alike(2, 1, 2), order(1, 0)), []int{2, 1}}, {problem([][]int{{5, 6}, {0, 6}}, order(0, 1)), []int{5, 6}}, {problem([][]int{{5, 6}, {0, 5}}, order(1, 0)), []int{5, 0}},
		{problem(three, differ(0, 1, 2)), []int{0, 1, 2}}, {problem(three, differ(0, 1, 2), apart(2, 0, 1)), []int{0, 2, 1}}, {problem(three, differ(2, 1, 0), apart(2, 2, 1)), []int{1, 0, 2}}, {problem(three, differ(0, 2)), []int{0, 0, 1}}, {problem(three, order(2, 1, 0)), []int{2, 1, 0}}, {problem(three, order(1, 0), order(1, 2)), []int{1, 0, 1}}, {problem(three, order(0, 1), order(2, 1)), []int{0, 1, 0}},
		{problem(three, table([]int{0}, []int{2})), []int{2, 0, 0}}, {problem(three, table([]int{2}, []int{2}, []int{1})), []int{0, 0, 1}}, {problem(three, table([]int{2, 0}, []int{0, 2}, []int{2, 1})), []int{1, 0, 2}}, {problem(three, table([]int{0, 2}, []int{2, 0}, []int{1, 2})), []int{1, 0, 2}}, {problem(three, table([]int{1, 2, 0}, []int{0, 0, 2}, []int{2, 2, 1}, []int{2, 1, 1})), []int{1, 2, 1}},
		{problem(three, table([]int{0, 1}, []int{2, 2}, []int{2, 1}, []int{2, 2})), []int{2, 1, 0}}, {problem(three, table([]int{0}, []int{-3}, []int{5}, []int{1}, []int{math.MinInt}, []int{math.MaxInt})), []int{1, 0, 0}}, {problem(alike(2, 0, api.MaxDay), apart(api.MaxDay, 0, 1)), []int{0, api.MaxDay}}, {problem(alike(2, 0, api.MaxDay), apart(api.MaxDay, 0, 1), order(1, 0)), []int{api.MaxDay, 0}},
		{problem(alike(2, 10, 100, 1000), apart(90, 0, 1)), []int{10, 100}}, {problem(alike(2, 10, 100, 1000), apart(91, 0, 1)), []int{10, 1000}}, {problem(alike(2, 10, 100, 1000), apart(900, 0, 1)), []int{10, 1000}}, {problem([][]int{{10, 100}, {9, 100, 1000}}, apart(990, 0, 1)), []int{10, 1000}}, {problem([][]int{{100, 110}, {0, 5, 8}}, apart(101, 0, 1)), []int{110, 0}},
	} {
		if !solved(x.p, x.x) || !answered(x.p) {
			t.Error(i)
		}
	}
}

// P15.1, P15.2, P15.3: problems without a solution, with what remains of their rules.
func TestUnsolved(t *testing.T) {
	three := alike(3, 0, 1, 2)
	for i, x := range []struct {
		p    api.Problem
		core []int
	}{
		{problem([][]int{{3, 4}}, never(0)), []int{0}}, {problem([][]int{{3, 4}}, never(0), never(0)), []int{1}}, {problem([][]int{{3, 4}}, slices.Repeat([]api.Rule{never(0)}, 64)...), []int{63}}, {problem(alike(2, 1), differ(0, 1)), []int{0}}, {problem(alike(2, 1), order(0, 1)), []int{0}}, {problem(alike(2, 1), apart(1, 0, 1)), []int{0}}, {problem([][]int{{1, 3}}, table([]int{0}, []int{2}, []int{0}, []int{4}, []int{-1})), []int{0}},
		{problem(three, apart(3, 0, 1), differ(0, 1, 2)), []int{0}}, {problem(three, differ(0, 1, 2), apart(3, 0, 1)), []int{1}}, {problem(three, order(0, 1), order(1, 2), order(2, 0)), []int{0, 1, 2}}, {problem(three, order(0, 1), differ(0, 1, 2), order(1, 0)), []int{0, 2}}, {problem(three, order(0, 1), order(1, 0), order(0, 1)), []int{1, 2}}, {problem(three, order(1, 0), order(0, 1), order(0, 1), order(1, 0)), []int{2, 3}},
		{problem(alike(3, 0, 1), differ(0, 1, 2), order(0, 1)), []int{0}}, {problem(alike(3, 0, 1), order(0, 1), differ(0, 1, 2)), []int{1}}, {problem(alike(3, 0, 1), order(0, 1), order(1, 2), differ(0, 1, 2)), []int{2}}, {problem(alike(3, 0, 1), differ(0, 1, 2), order(0, 1), order(1, 2)), []int{1, 2}}, {problem(three, apart(2, 0, 1, 2), order(0, 1, 2)), []int{0}}, {problem(alike(2, 0, api.MaxDay-1), apart(api.MaxDay, 0, 1)), []int{0}},
		{problem([][]int{{5, 9}}, table([]int{0}, []int{9}), table([]int{0}, []int{5})), []int{0, 1}}, {problem([][]int{{5, 9}}, table([]int{0}, []int{9}), table([]int{0}, []int{5}), never(0)), []int{2}}, {problem([][]int{{5, 9}}, table([]int{0}, []int{9}), never(0), table([]int{0}, []int{5})), []int{1}}, {problem([][]int{{5, 9}}, never(0), table([]int{0}, []int{9}), table([]int{0}, []int{5})), []int{1, 2}},
	} {
		if !refuted(x.p, x.core...) || !answered(x.p) {
			t.Error(i)
		}
	}
}

// P15.1 to P15.3: all pairs of rules for two variables.
func TestAllPairs(t *testing.T) {
	for _, domains := range [][][]int{alike(2, 1, 2), {{1}, {1, 2}}, {{0, 1, 2}, {2}}} {
		rules := somePairs(1, 2)
		for _, a := range rules {
			for _, b := range rules {
				if p := problem(domains, a, b); !answered(p) {
					t.Fatal(p)
				}
			}
		}
	}
}

// P15.1 to P15.3: problems by chance of all shapes.
func TestManyProblems(t *testing.T) {
	r := rand.New(rand.NewSource(2))
	met := [2]int{}
	for i := range 8000 {
		p := anyProblem(r, 1+r.Intn(4), 1+r.Intn(4), r.Intn(7))
		if i%20 == 0 {
			p = anyProblem(r, 2+r.Intn(5), 3, r.Intn(30))
		}
		if !answered(p) {
			t.Fatal(p)
		}
		met[min(1, len(solutions(p)))]++
	}
	if met[0] < 2000 || met[1] < 2000 {
		t.Error(met)
	}
}

// P15.1: one assignment alone is permitted, at each place.
func TestOneSolution(t *testing.T) {
	domains := [][]int{{1, 5}, {2, 3, 9}, {0, 7, 8, api.MaxDay}}
	for _, x := range all(domains) {
		for _, vars := range [][]int{{0, 1, 2}, {2, 1, 0}, {1, 2, 0}} {
			row := []int{x[vars[0]], x[vars[1]], x[vars[2]]}
			var single []api.Rule
			for i, v := range vars {
				single = append(single, table([]int{v}, row[i:i+1]))
			}
			if !solved(problem(domains, table(vars, row)), x) || !solved(problem(domains, single...), x) {
				t.Error(x, vars)
			}
			if p := problem(domains, table(vars, row, []int{-1, -1, -1}), order(vars...)); !answered(p) {
				t.Error(x, vars)
			}
		}
	}
}

// P15.1: problems as large as they may be.
func TestLargest(t *testing.T) {
	twelve := up(0, 12)
	back := slices.Clone(twelve)
	slices.Reverse(back)
	var steps [][]int // the variable i is i or i + 1
	for i := range 12 {
		steps = append(steps, []int{i, i + 1})
	}
	late := []int{1, 2, 3, 4, 5, 6, 7, 8, 9, 10, 11, 12}
	sixteen := sized(16, 16, 16, 16)
	wide := sized(1, 16, 1, 1, 16, 1, 1, 16, 1, 1, 1, 16)
	for i, x := range []struct {
		p api.Problem
		x []int
	}{
		{problem(steps, order(twelve...)), twelve}, {problem(steps, differ(twelve...)), twelve}, {problem(steps, order(twelve...), table([]int{0}, []int{1})), late}, {problem(steps, differ(back...), table([]int{0}, []int{1})), late}, {problem(steps, apart(1, back...), table([]int{0}, []int{1})), late}, {problem(steps, table(back, []int{12, 11, 10, 9, 8, 7, 6, 5, 4, 3, 2, 1}, back)), twelve},
		{problem(sixteen), []int{0, 0, 0, 0}}, {problem(sixteen, order(3, 2, 1, 0)), []int{3, 2, 1, 0}}, {problem(sixteen, apart(5, 0, 1, 2, 3)), []int{0, 5, 10, 15}}, {problem(sixteen, apart(5, 0, 1, 2, 3), order(3, 2, 1, 0)), []int{15, 10, 5, 0}}, {problem(sixteen, table([]int{3, 2, 1, 0}, []int{15, 15, 15, 15})), []int{15, 15, 15, 15}}, {problem(sixteen, table([]int{3}, []int{15}), table([]int{2}, []int{15}), table([]int{1}, []int{15}), table([]int{0}, []int{15})), []int{15, 15, 15, 15}},
		{problem(wide, order(0, 11, 7, 4, 1)), []int{0, 4, 0, 0, 3, 0, 0, 2, 0, 0, 0, 1}}, {problem(wide, apart(15, 1, 0), order(4, 7), order(11, 7), order(5, 11)), []int{0, 15, 0, 0, 0, 0, 0, 2, 0, 0, 0, 1}}, {problem(sized(15, 13, 16, 7, 3), order(4, 3, 1, 0, 2)), []int{3, 2, 4, 1, 0}},
	} {
		if !solved(x.p, x.x) {
			t.Error(i)
		}
	}
	for i, p := range []api.Problem{
		problem(sixteen, never(3)), problem(sixteen, order(0, 1, 2), order(3, 0), order(2, 3)), problem(sixteen, apart(6, 0, 1, 2, 3)), problem(sixteen, table([]int{0, 1, 2, 3}, []int{16, 0, 0, 0}, []int{0, 0, 0, -1})), problem(wide, order(11, 7, 0)), problem(steps, order(back...)), problem(steps, never(11)), problem(alike(12, 8), differ(back...)),
	} {
		if !refuted(p, coreOf(p)...) {
			t.Error(i)
		}
	}
}

// P15.1: tables with all rows of a size but one, in any order.
func TestLargeTables(t *testing.T) {
	r := rand.New(rand.NewSource(3))
	domains := sized(4, 4, 4, 4)
	for _, n := range []int{255, 254, 128, 256} {
		for range 20 {
			rows := all(domains)
			r.Shuffle(len(rows), func(i, j int) { rows[i], rows[j] = rows[j], rows[i] })
			p := problem(domains, table([]int{2, 0, 3, 1}, rows[:n]...))
			for _, x := range all(domains) {
				if l, e := search.Broken(p, x); e != api.OK || !slices.Equal(l, brokenBy(p, x)) {
					t.Fatal(n, x, l, e)
				}
			}
			if l := solutions(p); !solved(p, l[0]) || len(l) != n {
				t.Fatal(n)
			}
		}
	}
}
