package search_test

import (
	"math/rand"
	"slices"

	"fasti/api"
	"fasti/search"
)

func problem(domains [][]int, rules ...api.Rule) api.Problem {
	return api.Problem{Domains: domains, Rules: rules}
}

func table(vars []int, rows ...[]int) api.Rule {
	return api.Rule{Kind: api.TableR, Vars: vars, Table: rows}
}

func differ(vars ...int) api.Rule { return api.Rule{Kind: api.DifferR, Vars: vars} }

func apart(n int, vars ...int) api.Rule { return api.Rule{Kind: api.ApartR, N: n, Vars: vars} }

func order(vars ...int) api.Rule { return api.Rule{Kind: api.OrderR, Vars: vars} }

// never is a rule that every assignment breaks.
func never(v int) api.Rule { return table([]int{v}) }

// up returns n numbers in order, beginning with first.
func up(first, n int) (l []int) {
	for k := range n {
		l = append(l, first+k)
	}
	return l
}

// alike returns domains with the same values.
func alike(count int, values ...int) (l [][]int) {
	for range count {
		l = append(l, slices.Clone(values))
	}
	return l
}

// sized returns domains with so many values, from 0 on.
func sized(sizes ...int) (l [][]int) {
	for _, n := range sizes {
		l = append(l, up(0, n))
	}
	return l
}

// all returns the assignments of domains, in lexicographic order.
func all(domains [][]int) (l [][]int) {
	l = [][]int{nil}
	for _, values := range domains {
		var longer [][]int
		for _, x := range l {
			for _, v := range values {
				longer = append(longer, append(slices.Clone(x), v))
			}
		}
		l = longer
	}
	return l
}

// fulfils reports whether values fulfil a rule.
func fulfils(r api.Rule, x []int) bool {
	var l []int
	for _, v := range r.Vars {
		l = append(l, x[v])
	}
	least := r.N
	switch r.Kind {
	case api.TableR:
		return slices.ContainsFunc(r.Table, func(row []int) bool { return slices.Equal(row, l) })
	case api.OrderR:
		least = 1
	case api.DifferR:
		least = 1
		slices.Sort(l)
	case api.ApartR:
		slices.Sort(l)
	}
	for i := 1; i < len(l); i++ {
		if l[i]-l[i-1] < least {
			return false
		}
	}
	return true
}

// brokenBy returns the rules that an assignment breaks.
func brokenBy(p api.Problem, x []int) (l []int) {
	for i, r := range p.Rules {
		if !fulfils(r, x) {
			l = append(l, i)
		}
	}
	return l
}

// solutions returns all solutions, in lexicographic order.
func solutions(p api.Problem) (l [][]int) {
	for _, x := range all(p.Domains) {
		if len(brokenBy(p, x)) == 0 {
			l = append(l, x)
		}
	}
	return l
}

// proofFrom forms a proof for values, as the document tells it.
func proofFrom(p api.Problem, x []int) api.Proof {
	for i, r := range p.Rules {
		if slices.Max(r.Vars) < len(x) && !fulfils(r, x) {
			return api.Proof{Rule: i}
		}
	}
	t := api.Proof{Rule: -1}
	for _, v := range p.Domains[len(x)] {
		t.Kids = append(t.Kids, proofFrom(p, append(slices.Clone(x), v)))
	}
	return t
}

// isRight reports whether a proof is right for values, as the document tells it.
func isRight(p api.Problem, t api.Proof, x []int) bool {
	if t.Rule >= 0 && t.Rule < len(p.Rules) && len(t.Kids) == 0 {
		r := p.Rules[t.Rule]
		return slices.Max(r.Vars) < len(x) && !fulfils(r, x)
	}
	if t.Rule != -1 || len(x) >= len(p.Domains) || len(t.Kids) != len(p.Domains[len(x)]) {
		return false
	}
	for i, v := range p.Domains[len(x)] {
		if !isRight(p, t.Kids[i], append(slices.Clone(x), v)) {
			return false
		}
	}
	return true
}

// part returns a problem with some of the rules.
func part(p api.Problem, rules []int) api.Problem {
	q := api.Problem{Domains: p.Domains}
	for _, i := range rules {
		q.Rules = append(q.Rules, p.Rules[i])
	}
	return q
}

// coreOf returns what Core returns for a problem without solutions, as the document tells it.
func coreOf(p api.Problem) []int {
	var broken [][]int // for each assignment
	for _, x := range all(p.Domains) {
		broken = append(broken, brokenBy(p, x))
	}
	taken := up(0, len(p.Rules))
	for i := range p.Rules {
		others := slices.DeleteFunc(slices.Clone(taken), func(k int) bool { return k == i })
		solved := slices.ContainsFunc(broken, func(l []int) bool {
			return !slices.ContainsFunc(l, func(k int) bool { return slices.Contains(others, k) })
		})
		if !solved {
			taken = others
		}
	}
	return taken
}

func sameProofs(a, b api.Proof) bool {
	return a.Rule == b.Rule && slices.EqualFunc(a.Kids, b.Kids, sameProofs)
}

// solved reports whether all functions find that x is the least solution.
func solved(p api.Problem, x []int) bool {
	got, ok, e := search.Solve(p)
	t, refuted, f := search.Refute(p)
	l, cored, g := search.Core(p)
	broken, h := search.Broken(p, x)
	return search.Check(p) == api.OK && e == api.OK && ok && slices.Equal(got, x) && f == api.OK && !refuted && sameProofs(t, api.Proof{}) &&
		g == api.OK && !cored && len(l) == 0 && h == api.OK && len(broken) == 0
}

// refuted reports whether all functions find that there is no solution, and the core is right.
func refuted(p api.Problem, core ...int) bool {
	x, ok, e := search.Solve(p)
	t, shown, f := search.Refute(p)
	right, g := search.Accepts(p, t)
	l, cored, h := search.Core(p)
	return search.Check(p) == api.OK && e == api.OK && !ok && len(x) == 0 && f == api.OK && shown && sameProofs(t, proofFrom(p, nil)) &&
		g == api.OK && right && h == api.OK && cored && slices.Equal(l, core)
}

// answered reports whether all functions answer as the document says.
func answered(p api.Problem) bool {
	for _, x := range all(p.Domains) {
		if l, e := search.Broken(p, x); e != api.OK || !slices.Equal(l, brokenBy(p, x)) {
			return false
		}
	}
	if l := solutions(p); len(l) > 0 {
		return solved(p, l[0])
	}
	return refuted(p, coreOf(p)...)
}

// anyDomains returns domains by chance.
func anyDomains(r *rand.Rand, vars, values, most int) (l [][]int) {
	for range vars {
		domain := r.Perm(most + 1)[:1+r.Intn(values)]
		slices.Sort(domain)
		l = append(l, domain)
	}
	return l
}

// anyRule returns a rule by chance. Some rows of a table have values that are in no domain.
func anyRule(r *rand.Rand, domains [][]int) api.Rule {
	vars := r.Perm(len(domains))[:1+r.Intn(len(domains))]
	switch r.Intn(5) {
	case 0:
		return differ(vars...)
	case 1:
		return apart(1+r.Intn(4), vars...)
	case 2:
		return order(vars...)
	}
	vars = vars[:min(len(vars), 3)]
	var rows [][]int
	for range r.Intn(12) {
		row := make([]int, len(vars))
		for i, v := range vars {
			row[i] = domains[v][r.Intn(len(domains[v]))]
			if r.Intn(20) == 0 {
				row[i] = r.Intn(20) - 5
			}
		}
		rows = append(rows, row)
	}
	return table(vars, rows...)
}

// anyProblem returns a problem by chance.
func anyProblem(r *rand.Rand, vars, values, rules int) api.Problem {
	p := api.Problem{Domains: anyDomains(r, vars, values, values+3)}
	for range rules {
		p.Rules = append(p.Rules, anyRule(r, p.Domains))
	}
	return p
}

// somePairs returns rules for two variables: all kinds, and tables with rows of some values.
func somePairs(values ...int) (l []api.Rule) {
	for _, vars := range [][]int{{0}, {1}, {0, 1}, {1, 0}} {
		l = append(l, differ(vars...), apart(1, vars...), apart(2, vars...), order(vars...))
		rows := all(alike(len(vars), values...))
		for code := range 1 << len(rows) {
			var some [][]int
			for i, row := range rows {
				if code>>i&1 == 1 {
					some = append(some, row)
				}
			}
			l = append(l, table(vars, some...))
		}
	}
	return l
}
