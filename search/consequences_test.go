package search_test

import (
	"math/rand"
	"slices"
	"testing"

	"fasti/api"
	"fasti/search"
)

// P15.4: a solution, or a proof, and never both; no proof is accepted if there is a solution.
func TestEither(t *testing.T) {
	r := rand.New(rand.NewSource(6))
	met := [2]int{}
	for range 4000 {
		p := anyProblem(r, 1+r.Intn(5), 1+r.Intn(4), r.Intn(9))
		x, ok, e := search.Solve(p)
		proof, refuted, f := search.Refute(p)
		right, g := search.Accepts(p, proof)
		_, cored, h := search.Core(p)
		if e != api.OK || f != api.OK || g != api.OK || h != api.OK || ok == refuted || right != refuted || cored != refuted {
			t.Fatal(p)
		}
		if !ok {
			met[0]++
			continue
		}
		met[1]++
		if l, e := search.Broken(p, x); e != api.OK || len(l) > 0 {
			t.Fatal(p, x, l)
		}
		if len(p.Rules) == 0 {
			continue
		}
		for range 10 {
			if right, e := search.Accepts(p, proofOfSome(r, p, nil)); e != api.OK || right {
				t.Fatal(p)
			}
		}
	}
	if met[0] < 500 || met[1] < 500 {
		t.Error(met)
	}
}

// anyPair returns a rule by chance that permits about half of the values of two variables.
func anyPair(r *rand.Rand, domains [][]int) api.Rule {
	vars := r.Perm(len(domains))[:2]
	var rows [][]int
	for _, row := range all([][]int{domains[vars[0]], domains[vars[1]]}) {
		if r.Intn(2) == 0 {
			rows = append(rows, row)
		}
	}
	return []api.Rule{differ(vars...), apart(1+r.Intn(5), vars...), order(vars...), table(vars, rows...)}[r.Intn(4)]
}

// P15.4: large problems, whose answers show that they are right.
func TestEitherLarge(t *testing.T) {
	r := rand.New(rand.NewSource(7))
	met := [2]int{}
	for range 200 {
		p := problem(sized([][]int{{16, 16, 16, 16}, {8, 8, 4, 4, 4, 4}, {2, 2, 2, 2, 2, 2, 2, 2, 2, 2, 2, 2}, {1, 9, 1, 9, 1, 9, 1, 9}}[r.Intn(4)]...))
		for range 1 + r.Intn(24) {
			p.Rules = append(p.Rules, anyPair(r, p.Domains))
		}
		x, ok, e := search.Solve(p)
		proof, refuted, f := search.Refute(p)
		if right, g := search.Accepts(p, proof); e != api.OK || f != api.OK || g != api.OK || ok == refuted || right != refuted {
			t.Fatal(p)
		}
		if !ok {
			met[0]++
			continue
		}
		met[1]++
		if l, e := search.Broken(p, x); e != api.OK || len(l) > 0 {
			t.Fatal(p, x, l)
		}
	}
	if met[0] < 20 || met[1] < 20 {
		t.Error(met)
	}
}

// P15.6: without some of the rules each solution is still one.
func TestFewerRules(t *testing.T) {
	r := rand.New(rand.NewSource(8))
	more := 0
	for range 2000 {
		p := anyProblem(r, 1+r.Intn(4), 1+r.Intn(4), 1+r.Intn(8))
		var some []int
		for i := range p.Rules {
			if r.Intn(3) > 0 {
				some = append(some, i)
			}
		}
		q := part(p, some)
		for _, x := range all(p.Domains) {
			before, e := search.Broken(p, x)
			after, f := search.Broken(q, x)
			if e != api.OK || f != api.OK {
				t.Fatal(p, x)
			}
			for _, i := range after {
				if !slices.Contains(before, some[i]) {
					t.Fatal(p, some, x)
				}
			}
			if len(before) > 0 && len(after) == 0 {
				more++
			}
		}
		x, ok, _ := search.Solve(p)
		y, found, _ := search.Solve(q)
		_, refuted, _ := search.Refute(p)
		_, still, _ := search.Refute(q)
		if ok && (!found || slices.Compare(y, x) > 0) || still && !refuted {
			t.Fatal(p, some)
		}
	}
	if more < 1000 {
		t.Error(more)
	}
}

// P15.6: a rule is replaced by one of another kind for the same variables.
func TestOtherKinds(t *testing.T) {
	r := rand.New(rand.NewSource(9))
	met := [2]int{}
	for range 3000 {
		p := anyProblem(r, 1+r.Intn(5), 1+r.Intn(4), r.Intn(5))
		vars := r.Perm(len(p.Domains))[:1+r.Intn(len(p.Domains))]
		at := r.Intn(len(p.Rules) + 1)
		with := func(rule api.Rule) api.Problem {
			return problem(p.Domains, slices.Insert(slices.Clone(p.Rules), at, rule)...)
		}
		ordered, differs, apart1, apart2 := with(order(vars...)), with(differ(vars...)), with(apart(1, vars...)), with(apart(2, vars...))
		for _, x := range all(p.Domains) {
			a, e := search.Broken(ordered, x)
			b, f := search.Broken(differs, x)
			c, g := search.Broken(apart1, x)
			d, h := search.Broken(apart2, x)
			if e != api.OK || f != api.OK || g != api.OK || h != api.OK || !slices.Equal(b, c) || slices.Contains(b, at) && !(slices.Contains(a, at) && slices.Contains(d, at)) {
				t.Fatal(p, vars, x)
			}
			if !slices.Contains(b, at) && slices.Contains(a, at) {
				met[0]++
			}
			if !slices.Contains(b, at) && slices.Contains(d, at) {
				met[1]++
			}
		}
		x, ok, _ := search.Solve(differs)
		y, same, _ := search.Solve(apart1)
		s, a, _ := search.Refute(differs)
		u, b, _ := search.Refute(apart1)
		l, c, _ := search.Core(differs)
		m, d, _ := search.Core(apart1)
		if ok != same || !slices.Equal(x, y) || a != b || !sameProofs(s, u) || c != d || !slices.Equal(l, m) {
			t.Fatal(p, vars)
		}
		if z, less, _ := search.Solve(ordered); less && (!ok || slices.Compare(x, z) > 0) {
			t.Fatal(p, vars)
		}
	}
	if met[0] < 500 || met[1] < 500 {
		t.Error(met)
	}
}

// copied returns a problem that shares nothing with another one.
func copied(p api.Problem) (q api.Problem) {
	for _, values := range p.Domains {
		q.Domains = append(q.Domains, slices.Clone(values))
	}
	for _, r := range p.Rules {
		c := api.Rule{Kind: r.Kind, N: r.N, Vars: slices.Clone(r.Vars)}
		for _, row := range r.Table {
			c.Table = append(c.Table, slices.Clone(row))
		}
		q.Rules = append(q.Rules, c)
	}
	return q
}

// sameProblems reports whether two problems are equal.
func sameProblems(p, q api.Problem) bool {
	sameRules := func(a, b api.Rule) bool {
		return a.Kind == b.Kind && a.N == b.N && slices.Equal(a.Vars, b.Vars) && slices.EqualFunc(a.Table, b.Table, slices.Equal)
	}
	return slices.EqualFunc(p.Domains, q.Domains, slices.Equal) && slices.EqualFunc(p.Rules, q.Rules, sameRules)
}

// R2: no call changes its arguments, or a result of an earlier call.
func TestPure(t *testing.T) {
	solvable := problem([][]int{{1, 5, 9}, {2, 5}, {0, 5, 7}}, table([]int{2, 0}, []int{7, 9}, []int{0, 5}, []int{7, 1}, []int{0, 9}), differ(2, 0, 1), apart(3, 1, 2), order(0, 1))
	refutable := problem([][]int{{1, 5, 9}, {2, 5}, {0, 5, 7}}, table([]int{2, 0}, []int{7, 9}, []int{0, 5}, []int{0, 1}), differ(2, 0, 1), apart(2, 1, 0), order(0, 1, 2), never(1))
	a, b := copied(solvable), copied(refutable)
	x, ok, _ := search.Solve(solvable)
	proof, no, _ := search.Refute(refutable)
	core, _, _ := search.Core(refutable)
	broken, _ := search.Broken(refutable, []int{5, 5, 7})
	y, same, thin, l := slices.Clone(x), proofFrom(refutable, nil), slices.Clone(core), slices.Clone(broken)
	if !ok || !no || len(l) < 2 {
		t.Fatal(x, proof, l)
	}
	for range 3 {
		x2, _, _ := search.Solve(solvable)
		proof2, _, _ := search.Refute(refutable)
		core2, _, _ := search.Core(refutable)
		broken2, _ := search.Broken(refutable, []int{5, 5, 7})
		search.Accepts(refutable, proof)
		search.Accepts(solvable, proof)
		search.Check(refutable)
		if !slices.Equal(x2, y) || !sameProofs(proof2, same) || !slices.Equal(core2, thin) || !slices.Equal(broken2, l) {
			t.Error(x2, proof2, core2, broken2)
		}
	}
	if !slices.Equal(x, y) || !sameProofs(proof, same) || !slices.Equal(core, thin) || !slices.Equal(broken, l) {
		t.Error(x, proof, core, broken)
	}
	if !sameProblems(solvable, a) || !sameProblems(refutable, b) {
		t.Error(solvable, refutable)
	}
}

// R3: a nil slice is an empty one.
func TestEmptySlices(t *testing.T) {
	for _, p := range []api.Problem{problem([][]int{{1}}, []api.Rule{}...), problem([][]int{{1}}, api.Rule{Kind: api.DifferR, Vars: []int{0}, Table: [][]int{}}), problem([][]int{{1}}, table([]int{0}, [][]int{}...))} {
		q := copied(p)
		x, ok, e := search.Solve(p)
		y, same, f := search.Solve(q)
		if e != api.OK || f != api.OK || ok != same || !slices.Equal(x, y) || !answered(p) || !answered(q) {
			t.Error(p)
		}
	}
}

// R6: equal calls return equal results.
func TestEqualCalls(t *testing.T) {
	r := rand.New(rand.NewSource(10))
	for range 200 {
		p := anyProblem(r, 1+r.Intn(5), 4, r.Intn(9))
		q := copied(p)
		for range 3 {
			x, _, _ := search.Solve(p)
			y, _, _ := search.Solve(q)
			s, _, _ := search.Refute(p)
			u, _, _ := search.Refute(q)
			l, _, _ := search.Core(p)
			m, _, _ := search.Core(q)
			if !slices.Equal(x, y) || !sameProofs(s, u) || !slices.Equal(l, m) || !sameProblems(p, q) {
				t.Fatal(p)
			}
		}
	}
}
