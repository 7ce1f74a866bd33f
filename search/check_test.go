package search_test

import (
	"math"
	"math/rand"
	"slices"
	"testing"

	"fasti/api"
	"fasti/search"
)

// edges are numbers that are no values of a domain, and no variables.
var edges = []int{math.MinInt, math.MinInt + 1, -1 << 32, -1<<32 + 1, -1 << 31, -73048, -2, -1, api.MaxDay + 1, api.MaxDay + 2, 1 << 20, 1<<31 - 1, 1 << 31, 1 << 32, 1<<32 + 1, math.MaxInt - 1, math.MaxInt}

// fails reports whether all functions return an error for a problem, and nothing else.
func fails(p api.Problem, want api.Errno) bool {
	var first []int
	for _, values := range p.Domains {
		first = append(first, append(values, 0)[0])
	}
	broken, a := search.Broken(p, first)
	none, b := search.Broken(p, nil)
	x, ok, c := search.Solve(p)
	t, refuted, d := search.Refute(p)
	right, f := search.Accepts(p, api.Proof{Rule: -1})
	l, cored, g := search.Core(p)
	return search.Check(p) == want && a == want && b == want && c == want && d == want && f == want && g == want && len(broken) == 0 && len(none) == 0 &&
		len(x) == 0 && !ok && sameProofs(t, api.Proof{}) && !refuted && !right && len(l) == 0 && !cored
}

// P15.1: problems at the limits.
func TestCheckAccepts(t *testing.T) {
	long := make([][]int, 256)
	for i := range long {
		long[i] = make([]int, 12)
	}
	for i, p := range []api.Problem{
		problem([][]int{{0}}), problem([][]int{{api.MaxDay}}), problem([][]int{{0, api.MaxDay}}), problem([][]int{{5}, {5}}), problem([][]int{{9, 10}, {1}}), problem([][]int{up(api.MaxDay-15, 16)}),
		problem(alike(12, 7)), problem(alike(12, 0, 1)), problem(sized(16, 16, 16, 16)), problem(sized(16, 1, 16, 1, 16, 1, 16, 1, 1, 1, 1, 1)), problem(sized(4, 4, 4, 4, 2, 2, 2, 2, 2, 2, 2, 2)), problem(sized(2, 8, 8, 8, 8, 8)), problem(sized(16, 15, 13, 7, 3)),
		problem(alike(1, 3), slices.Repeat([]api.Rule{differ(0)}, 64)...), problem(alike(12, 3), differ(up(0, 12)...)), problem(alike(12, 3), order(11, 10, 9, 8, 7, 6, 5, 4, 3, 2, 1, 0)), problem(alike(12, 3), apart(1, 5, 0, 11, 1, 2, 3, 4, 6, 7, 8, 9, 10)),
		problem(alike(12, 3), table(up(0, 12), long...)), problem(alike(12, 0), table(up(0, 12))), problem([][]int{{1}}, table([]int{0})), problem([][]int{{1}}, table([]int{0}, [][]int{}...)), problem([][]int{{1}}, table([]int{0}, []int{math.MinInt}, []int{math.MaxInt})),
		problem([][]int{{1}}, apart(1, 0)), problem([][]int{{1}}, apart(api.MaxDay, 0)), problem([][]int{{1}}, order(0)), problem([][]int{{1}}, api.Rule{Kind: api.OrderR, Vars: []int{0}, Table: [][]int{}}), problem(alike(2, 1, 2), order(0, 1), order(0, 1), order(1, 0)),
	} {
		if e := search.Check(p); e != api.OK {
			t.Error(i, e)
		}
	}
	for n := 1; n <= 16; n++ {
		if e := search.Check(problem(sized(n))); e != api.OK {
			t.Error(n, e)
		}
	}
	for n := 1; n <= 12; n++ {
		if e := search.Check(problem(alike(n, 4, 6), differ(n-1), order(up(0, n)...))); e != api.OK {
			t.Error(n, e)
		}
	}
}

// P15.1: what is too large counts before all that is wrong beside it, wherever it is.
func TestCheckLimit(t *testing.T) {
	one := alike(1, 1)
	for i, p := range []api.Problem{
		problem(make([][]int, 13)), problem(alike(13, 1)), problem(make([][]int, 1000)), problem(alike(13, 2, 1)), problem(sized(17)), problem([][]int{make([]int, 17)}), problem(sized(16, 17)), problem(sized(17, 16)), problem(sized(1, 1, 1, 1, 1, 1, 1, 1, 1, 1, 1, 17)), problem([][]int{nil, up(0, 17)}), problem([][]int{{3, 2}, up(0, 17)}), problem([][]int{{-1}, up(0, 1000)}),
		problem(one, make([]api.Rule, 65)...), problem(one, slices.Repeat([]api.Rule{differ(0)}, 65)...), problem(nil, make([]api.Rule, 65)...), problem(nil, make([]api.Rule, 1000)...),
		problem(one, differ(make([]int, 13)...)), problem(one, differ(up(0, 13)...)), problem(nil, differ(up(0, 13)...)), problem(alike(12, 1), order(up(0, 13)...)), problem(one, differ(), apart(0, up(0, 13)...)), problem(one, api.Rule{Kind: 9, Vars: make([]int, 1000)}), problem(one, api.Rule{Vars: make([]int, 13)}), problem(one, api.Rule{Kind: -1, Vars: up(0, 13)}),
		problem(one, table([]int{0}, make([][]int, 257)...)), problem(one, table([]int{0}, slices.Repeat([][]int{{1}}, 257)...)), problem(nil, table(nil, make([][]int, 257)...)), problem(one, api.Rule{Kind: api.DifferR, Vars: []int{0}, Table: make([][]int, 257)}), problem(one, api.Rule{Table: make([][]int, 257)}),
		problem(one, table([]int{0}, make([]int, 13))), problem(one, table([]int{0}, []int{1}, make([]int, 13))), problem(one, api.Rule{Kind: api.OrderR, Vars: []int{0}, Table: [][]int{make([]int, 13)}}), problem(alike(12, 1), table(up(0, 12), make([]int, 12), make([]int, 13))), problem(nil, api.Rule{}, api.Rule{Table: [][]int{nil, make([]int, 1000)}}),
	} {
		if !fails(p, api.ErrLimit) {
			t.Error(i, search.Check(p))
		}
	}
	rules := slices.Repeat([]api.Rule{differ(0)}, 64)
	for i := range rules {
		for k, large := range []api.Rule{differ(make([]int, 13)...), table([]int{0}, make([][]int, 257)...), table([]int{0}, nil, make([]int, 13))} {
			if p := problem(one, slices.Replace(slices.Clone(rules), i, i+1, large)...); !fails(p, api.ErrLimit) {
				t.Error(i, k, search.Check(p))
			}
		}
	}
}

// P15.1: too many assignments count after all that is not valid.
func TestCheckTries(t *testing.T) {
	for i, sizes := range [][]int{
		{15, 9, 9, 9, 6}, {6, 9, 9, 9, 15}, {15, 7, 5, 5, 5, 5}, {16, 14, 14, 7, 3}, {1, 1, 15, 9, 1, 9, 9, 6, 1, 1, 1, 1}, {16, 16, 16, 16, 2}, {2, 16, 16, 16, 16}, {4, 4, 4, 4, 2, 2, 2, 2, 2, 2, 2, 3}, {16, 16, 16, 16, 16}, slices.Repeat([]int{3}, 12), slices.Repeat([]int{16}, 12), slices.Repeat([]int{16}, 8), {16, 16, 16, 1, 16, 1, 1, 1, 1, 1, 1, 16},
	} {
		p := problem(sized(sizes...))
		if !fails(p, api.ErrLimit) || !fails(problem(p.Domains, never(0)), api.ErrLimit) {
			t.Error(i, search.Check(p))
		}
		if q := problem(p.Domains, differ(0), api.Rule{}); !fails(q, api.ErrProblem) {
			t.Error(i, search.Check(q))
		}
		if q := problem(append(p.Domains[:len(sizes)-1:len(sizes)-1], []int{2, 1})); !fails(q, api.ErrProblem) {
			t.Error(i, search.Check(q))
		}
	}
}

// P15.1: each domain may be wrong, as the only one.
func TestCheckDomains(t *testing.T) {
	wrong := [][]int{nil, {}, {1, 1}, {2, 1}, {0, 0}, {1, 3, 2}, {1, 3, 3}, {3, 1, 2}, {1, 5, 4, 6}, {-1, 0}, {5, api.MaxDay + 1}, {api.MaxDay, api.MaxDay}, {math.MaxInt, math.MinInt}, slices.Repeat([]int{4}, 16), append(up(1, 15), 15), append([]int{2}, up(1, 15)...), make([]int, 16)}
	for _, x := range edges {
		wrong = append(wrong, []int{x}, []int{0, x}, []int{x, 4}, []int{1, x, 4}, []int{1, 2, 3, x})
	}
	for _, values := range wrong {
		for n := 1; n <= 4; n++ {
			for at := range n {
				domains := alike(n, 1, 4)
				domains[at] = values
				if !fails(problem(domains), api.ErrProblem) || !fails(problem(domains, differ(0)), api.ErrProblem) {
					t.Error(values, n, at)
				}
			}
		}
	}
	for _, p := range []api.Problem{{}, {Domains: [][]int{}}, problem(nil, differ(0)), problem(nil, differ()), problem(alike(12, 1, 1)), problem(append(alike(11, 1), nil))} {
		if !fails(p, api.ErrProblem) {
			t.Error(p, search.Check(p))
		}
	}
}

// wrongRules returns rules that are not valid for two variables.
func wrongRules() (l []api.Rule) {
	for kind := api.TableR; kind <= api.OrderR; kind++ {
		n := 0
		if kind == api.ApartR {
			n = 1
		}
		for _, vars := range [][]int{nil, {}, {2}, {-1}, {0, 2}, {2, 0}, {0, 0}, {1, 1}, {0, 1, 0}, {0, 1, 1}, {1, 0, 1}, {0, 1, 2}, {12}, {0, -1}, {-1, -1}, slices.Repeat([]int{0}, 12), up(0, 12), up(1, 1<<3)} {
			l = append(l, api.Rule{Kind: kind, N: n, Vars: vars})
		}
		for _, x := range edges {
			l = append(l, api.Rule{Kind: kind, N: n, Vars: []int{x}}, api.Rule{Kind: kind, N: n, Vars: []int{0, x}}, api.Rule{Kind: kind, N: x, Vars: []int{0, 1}})
			l = append(l, api.Rule{Kind: x, Vars: []int{0, 1}}, api.Rule{Kind: x, N: 1, Vars: []int{0, 1}})
		}
		l = append(l, api.Rule{Kind: kind, N: 1 - n, Vars: []int{0, 1}})
		if kind != api.ApartR {
			l = append(l, api.Rule{Kind: kind, N: 2, Vars: []int{0}}, api.Rule{Kind: kind, N: api.MaxDay, Vars: []int{0}}, api.Rule{Kind: kind, N: 1, Vars: []int{0}, Table: [][]int{{1}}})
		}
		if kind != api.TableR {
			l = append(l, api.Rule{Kind: kind, N: n, Vars: []int{0, 1}, Table: [][]int{{1, 2}}}, api.Rule{Kind: kind, N: n, Vars: []int{0, 1}, Table: [][]int{nil}}, api.Rule{Kind: kind, N: n, Vars: []int{0}, Table: [][]int{{1}}}, api.Rule{Kind: kind, N: n, Vars: []int{0}, Table: make([][]int, 256)})
		}
	}
	for _, kind := range []int{0, 5, 6, 7, 8, 12, 16, 255, 256, 257} {
		l = append(l, api.Rule{Kind: kind, Vars: []int{0, 1}}, api.Rule{Kind: kind, N: 1, Vars: []int{0, 1}}, api.Rule{Kind: kind, Vars: []int{0}, Table: [][]int{{1}}})
	}
	return append(l, api.Rule{}, table([]int{0}, nil), table([]int{0}, []int{1, 2}), table([]int{0}, []int{1}, nil), table([]int{0}, nil, []int{1}), table([]int{0}, []int{1}, []int{1, 2}), table([]int{0, 1}, []int{1}), table([]int{0, 1}, []int{1, 2, 3}),
		table([]int{0, 1}, []int{1, 2}, []int{1, 2}, []int{1, 2, 3}), table([]int{0, 1}, []int{1, 2}, []int{1}, []int{1, 2}), table([]int{0}, append(slices.Repeat([][]int{{1}}, 255), []int{})...), table([]int{0, 1}, make([]int, 12)), table(nil, nil), table(nil, []int{}, []int{}))
}

// P15.1: each rule may be wrong, as the only one.
func TestCheckRules(t *testing.T) {
	for _, r := range wrongRules() {
		for at := range 3 {
			rules := slices.Insert([]api.Rule{order(0, 1), never(1)}, at, r)
			if !fails(problem(alike(2, 1, 2), rules...), api.ErrProblem) {
				t.Error(r, at)
			}
		}
		rules := append(slices.Repeat([]api.Rule{order(1, 0)}, 63), r)
		if !fails(problem(alike(2, 1, 2), rules...), api.ErrProblem) {
			t.Error(r)
		}
	}
}

// P15.1: of n variables a rule may have those below n, in any order.
func TestCheckVars(t *testing.T) {
	for n := 1; n <= 12; n++ {
		for v := -2; v <= 14; v++ {
			p := problem(alike(n, 3), order(v))
			if inside := v >= 0 && v < n; (search.Check(p) == api.OK) != inside || !inside && !fails(p, api.ErrProblem) {
				t.Error(n, v)
			}
		}
		for at := range n {
			for v := range n {
				vars := up(0, n)
				vars[at] = v
				if e := search.Check(problem(alike(n, 3), apart(1, vars...))); (e == api.OK) != (v == at) {
					t.Error(n, at, v)
				}
			}
		}
	}
}

// P15.1
func TestBroken(t *testing.T) {
	three := alike(3, 0, 1, 2)
	high := [][]int{{0, 1, api.MaxDay - 1, api.MaxDay}, {0, 1, api.MaxDay - 1, api.MaxDay}}
	for i, x := range []struct {
		p api.Problem
		x []int
		l []int
	}{
		{problem([][]int{{4}}), []int{4}, nil}, {problem(alike(2, 1, 2), order(0, 1)), []int{2, 1}, []int{0}}, {problem(alike(2, 1, 2), order(0, 1)), []int{1, 1}, []int{0}}, {problem(alike(2, 1, 2), order(0, 1)), []int{1, 2}, nil}, {problem(alike(2, 1, 2), order(1, 0)), []int{2, 1}, nil}, {problem(alike(2, 1, 2), order(1, 0)), []int{1, 2}, []int{0}},
		{problem(three, differ(0, 1, 2)), []int{0, 1, 0}, []int{0}}, {problem(three, differ(0, 1, 2)), []int{1, 0, 0}, []int{0}}, {problem(three, differ(0, 1, 2)), []int{1, 1, 0}, []int{0}}, {problem(three, differ(0, 1, 2)), []int{2, 0, 1}, nil}, {problem(three, differ(2, 0)), []int{1, 1, 0}, nil}, {problem(three, differ(2, 0)), []int{1, 0, 1}, []int{0}}, {problem(three, differ(1)), []int{1, 1, 1}, nil},
		{problem(three, apart(2, 0, 1)), []int{0, 2, 1}, nil}, {problem(three, apart(2, 0, 1)), []int{2, 0, 1}, nil}, {problem(three, apart(2, 0, 1)), []int{1, 0, 1}, []int{0}}, {problem(three, apart(2, 0, 1)), []int{1, 2, 0}, []int{0}}, {problem(three, apart(2, 0, 1, 2)), []int{0, 2, 1}, []int{0}}, {problem(three, apart(9, 1)), []int{0, 0, 0}, nil}, {problem(three, order(1)), []int{0, 0, 0}, nil},
		{problem(high, apart(api.MaxDay, 0, 1), apart(api.MaxDay-1, 0, 1), apart(api.MaxDay-2, 1, 0)), []int{0, api.MaxDay}, nil}, {problem(high, apart(api.MaxDay, 1, 0), apart(api.MaxDay-1, 0, 1), apart(api.MaxDay-2, 0, 1)), []int{1, api.MaxDay}, []int{0}}, {problem(high, apart(api.MaxDay, 1, 0), apart(api.MaxDay-1, 0, 1), apart(api.MaxDay-2, 0, 1)), []int{api.MaxDay - 1, 1}, []int{0, 1}}, {problem(high, apart(api.MaxDay, 0, 1)), []int{api.MaxDay, 0}, nil},
		{problem(three, table([]int{2, 0}, []int{0, 2}, []int{2, 1})), []int{2, 1, 0}, nil}, {problem(three, table([]int{2, 0}, []int{0, 2}, []int{2, 1})), []int{0, 1, 2}, []int{0}}, {problem(three, table([]int{2, 0}, []int{0, 2}, []int{2, 1})), []int{1, 1, 2}, nil}, {problem(three, table([]int{2, 0}, []int{0, 2}, []int{2, 1})), []int{2, 1, 1}, []int{0}}, {problem(three, table([]int{1}, []int{2}, []int{0}, []int{2})), []int{1, 2, 1}, nil}, {problem(three, table([]int{1}, []int{2}, []int{0}, []int{2})), []int{2, 1, 2}, []int{0}}, {problem(three, table([]int{1}, []int{2}, []int{0}, []int{2})), []int{1, 0, 1}, nil},
		{problem(three, table([]int{0}, []int{-1}, []int{3})), []int{0, 0, 0}, []int{0}}, {problem(three, never(0), differ(0), never(1), never(2), order(2, 1, 0)), []int{0, 1, 2}, []int{0, 2, 3, 4}}, {problem(three, order(0, 1, 2), order(2, 1, 0), order(1, 0)), []int{0, 2, 1}, []int{0, 1, 2}}, {problem(three, order(0, 2, 1), order(1, 2, 0), order(1, 0)), []int{0, 2, 1}, []int{1, 2}}, {problem(alike(1, 8), slices.Repeat([]api.Rule{never(0)}, 64)...), []int{8}, up(0, 64)},
	} {
		if l, e := search.Broken(x.p, x.x); e != api.OK || !slices.Equal(l, x.l) || !slices.Equal(l, brokenBy(x.p, x.x)) {
			t.Error(i, l, e)
		}
	}
}

// P15.1: what is no assignment.
func TestNoAssignment(t *testing.T) {
	domains := [][]int{{1, 3}, {2, 5, 9}, {0, api.MaxDay}}
	p := problem(domains, order(0, 1), never(0), differ(0, 1, 2))
	wrong := func(p api.Problem, x ...int) {
		if l, e := search.Broken(p, x); e != api.ErrArg || len(l) > 0 {
			t.Error(x, l, e)
		}
	}
	for _, x := range [][]int{nil, {}, {1}, {1, 2}, {1, 2, 0, 0}, {1, 2, 0, 1}, {0, 0, 0}, {0, 1, 1}, {2, 2, 0}, {1, 3, 0}, {1, 2, 1}, {1, 4, 0}, {1, 2, 2}, {1, 9, 72}, {4, 9, 0}, {1, 10, 0}, {5, 5, 0}, {3, 2, 5}, {2, 1, 0}, {0, 2, 1}, {1, 2, 0, 1, 2, 0}} {
		wrong(p, x...)
	}
	for _, x := range edges {
		wrong(p, x, 2, 0)
		wrong(p, 1, x, 0)
		wrong(p, 1, 2, x)
		wrong(p, 1, 2, 0, x)
		wrong(problem(alike(1, 4)), x)
	}
	wrong(problem(alike(2, 1, 2)), 1, 3)
	for n := range 30 {
		if n != 12 {
			wrong(problem(alike(12, 1, 2)), slices.Repeat([]int{1}, n)...)
		}
	}
	for code := range 12 * 12 * 3 {
		x := []int{code%12 - 1, code/12%12 - 1, []int{0, 1, api.MaxDay}[code/144]}
		if slices.Contains(domains[0], x[0]) && slices.Contains(domains[1], x[1]) && x[2] != 1 {
			if l, e := search.Broken(p, x); e != api.OK || !slices.Equal(l, brokenBy(p, x)) {
				t.Error(x, l, e)
			}
		} else {
			wrong(p, x...)
		}
	}
}

// P15.1: each value of each variable belongs to assignments.
func TestAllValues(t *testing.T) {
	for n := 1; n <= 12; n++ {
		for at := range n {
			for size := 1; size <= 16; size++ {
				domains := alike(n, 6)
				domains[at] = up(20, size)
				x := slices.Repeat([]int{6}, n)
				for v := 19; v <= 20+size; v++ {
					x[at] = v
					want := api.ErrArg
					if v >= 20 && v < 20+size {
						want = api.OK
					}
					if l, e := search.Broken(problem(domains, differ(0)), x); e != want || len(l) > 0 {
						t.Error(n, at, size, v, e)
					}
				}
			}
		}
	}
}

// P15.1: rules of many variables.
func TestBrokenMany(t *testing.T) {
	r := rand.New(rand.NewSource(1))
	met := map[int]int{}
	for range 3000 {
		n := 1 + r.Intn(12)
		p := problem(alike(n, 0, 4, 5, 9, 30, 31, 32, 70, 71, 90, 91, 92, 93, 94, 98, 99)[:min(n, 4)])
		for len(p.Domains) < n {
			p.Domains = append(p.Domains, []int{r.Intn(100)})
		}
		x := make([]int, n)
		for i, values := range p.Domains {
			x[i] = values[r.Intn(len(values))]
		}
		for range r.Intn(65) {
			rule := anyRule(r, p.Domains)
			if k := r.Intn(4); k == 0 && rule.Kind == api.TableR {
				row := make([]int, len(rule.Vars))
				for i, v := range rule.Vars {
					row[i] = x[v]
				}
				rule.Table = slices.Insert(rule.Table, r.Intn(len(rule.Table)+1), row)
			}
			p.Rules = append(p.Rules, rule)
		}
		l, e := search.Broken(p, x)
		if e != api.OK || !slices.Equal(l, brokenBy(p, x)) {
			t.Fatal(p, x, l, e)
		}
		for _, i := range l {
			met[p.Rules[i].Kind]++
		}
	}
	if len(met) != 4 {
		t.Error(met)
	}
}
