package search_test

import (
	"math/rand"
	"slices"
	"testing"

	"fasti/api"
	"fasti/search"
)

func leaf(rule int) api.Proof { return api.Proof{Rule: rule} }

func branch(kids ...api.Proof) api.Proof { return api.Proof{Rule: -1, Kids: kids} }

// accepted reports whether Accepts says what is right about a proof.
func accepted(p api.Problem, t api.Proof) bool {
	ok, e := search.Accepts(p, t)
	return e == api.OK && ok == isRight(p, t, nil)
}

// P15.2
func TestRefute(t *testing.T) {
	two := alike(2, 1, 2)
	for i, x := range []struct {
		p api.Problem
		t api.Proof
	}{
		{problem([][]int{{3, 4}}, never(0)), branch(leaf(0), leaf(0))}, {problem([][]int{{3}}, never(0)), branch(leaf(0))}, {problem(two, never(0)), branch(leaf(0), leaf(0))}, {problem(two, never(1)), branch(branch(leaf(0), leaf(0)), branch(leaf(0), leaf(0)))}, {problem(two, never(1), never(0)), branch(leaf(1), leaf(1))}, {problem(two, never(0), never(1)), branch(leaf(0), leaf(0))}, {problem(two, order(0, 1), never(1)), branch(branch(leaf(0), leaf(1)), branch(leaf(0), leaf(0)))},
		{problem(two, order(1, 0), order(0, 1)), branch(branch(leaf(0), leaf(0)), branch(leaf(1), leaf(0)))}, {problem(two, order(0, 1), order(1, 0)), branch(branch(leaf(0), leaf(1)), branch(leaf(0), leaf(0)))}, {problem(two, differ(0, 1), table([]int{1, 0}, []int{1, 1}, []int{2, 2})), branch(branch(leaf(0), leaf(1)), branch(leaf(1), leaf(0)))}, {problem(two, apart(2, 1, 0), table([]int{0}, []int{2})), branch(leaf(1), branch(leaf(0), leaf(0)))},
		{problem([][]int{{1}, {1, 2, 3}, {4}}, table([]int{0, 2}, []int{1, 1}), table([]int{1}, []int{2})), branch(branch(leaf(1), branch(leaf(0)), leaf(1)))}, {problem([][]int{{1}, {2}, {3}, {4}}, order(3, 0)), branch(branch(branch(branch(leaf(0)))))}, {problem([][]int{{1}, {2}, {3}, {4}}, order(2, 0)), branch(branch(branch(leaf(0))))}, {problem([][]int{{1}, {2}, {3}, {4}}, order(0, 3), order(1, 0), never(0), never(0)), branch(leaf(2))},
	} {
		if got, ok, e := search.Refute(x.p); e != api.OK || !ok || !sameProofs(got, x.t) || !accepted(x.p, x.t) || !refuted(x.p, coreOf(x.p)...) {
			t.Error(i, got, ok, e)
		}
	}
}

// P15.2: of several rules that are broken the first one is named, whatever its variables are.
func TestRefuteFirst(t *testing.T) {
	var rules []api.Rule
	for range 32 {
		rules = append(rules, order(0, 2), order(2, 1))
	}
	for i := range rules {
		for k := i; k < len(rules); k++ {
			some := slices.Clone(rules)
			some[i], some[k] = never(1), never(1)
			p := problem([][]int{{1}, {3, 4}, {5}}, some...)
			if got, ok, e := search.Refute(p); e != api.OK || !ok || !sameProofs(got, branch(branch(leaf(i), leaf(i)))) {
				t.Error(i, k, got)
			}
			some[i], some[k] = never(2), never(0)
			want := branch(leaf(k))
			if i == k {
				some[i] = never(0)
			}
			if got, ok, e := search.Refute(p); e != api.OK || !ok || !sameProofs(got, want) {
				t.Error(i, k, got)
			}
		}
	}
}

// P15.2: proofs of two variables with two values, and a rule that is broken, one that is not, and one that is broken later.
func TestAccepts(t *testing.T) {
	p := problem(alike(2, 1, 2), never(0), differ(0), order(1, 0), never(1))
	both := branch(leaf(3), leaf(0))
	for i, x := range []struct {
		t  api.Proof
		ok bool
	}{
		{branch(leaf(0), leaf(0)), true}, {branch(both, leaf(0)), true}, {branch(leaf(0), both), true}, {branch(both, both), true}, {branch(branch(leaf(2), leaf(2)), leaf(0)), true}, {branch(leaf(0), branch(leaf(3), leaf(2))), true}, {branch(leaf(0), branch(leaf(2), leaf(0))), false}, {branch(leaf(0), branch(leaf(0), leaf(1))), false},
		{leaf(0), false}, {leaf(1), false}, {leaf(3), false}, {leaf(4), false}, {leaf(-1), false}, {leaf(-2), false}, {api.Proof{}, false}, {branch(), false}, {branch(leaf(0)), false}, {branch(leaf(0), leaf(0), leaf(0)), false}, {branch(leaf(0), leaf(0), api.Proof{}, api.Proof{}), false},
		{branch(leaf(0), leaf(1)), false}, {branch(leaf(1), leaf(0)), false}, {branch(leaf(0), leaf(3)), false}, {branch(leaf(3), leaf(0)), false}, {branch(leaf(2), leaf(0)), false}, {branch(leaf(0), leaf(4)), false}, {branch(leaf(64), leaf(0)), false}, {branch(leaf(0), leaf(-1)), false}, {branch(leaf(0), leaf(-2)), false},
		{api.Proof{Rule: 0, Kids: []api.Proof{leaf(0), leaf(0)}}, false}, {api.Proof{Rule: -2, Kids: []api.Proof{leaf(0), leaf(0)}}, false}, {api.Proof{Rule: 4, Kids: []api.Proof{leaf(0), leaf(0)}}, false}, {branch(api.Proof{Rule: 0, Kids: []api.Proof{leaf(0)}}, leaf(0)), false}, {branch(leaf(0), api.Proof{Rule: 0, Kids: []api.Proof{leaf(3), leaf(3)}}), false}, {branch(leaf(0), api.Proof{Rule: 0, Kids: []api.Proof{}}), true},
		{branch(leaf(0), branch(leaf(0))), false}, {branch(leaf(0), branch(leaf(0), leaf(0), leaf(0))), false}, {branch(leaf(0), branch(leaf(0), branch())), false}, {branch(leaf(0), branch(branch(), leaf(0))), false}, {branch(leaf(0), branch(leaf(0), branch(leaf(0)))), false}, {branch(leaf(0), branch(leaf(0), branch(leaf(0), leaf(0)))), false}, {branch(branch(both, both), branch(both, both)), false},
	} {
		if ok, e := search.Accepts(p, x.t); e != api.OK || ok != x.ok || !accepted(p, x.t) {
			t.Error(i, ok, e)
		}
	}
	for _, n := range edges {
		for i, proof := range []api.Proof{leaf(n), branch(leaf(n), leaf(0)), branch(leaf(0), leaf(n)), {Rule: n, Kids: []api.Proof{leaf(0), leaf(0)}}, branch(leaf(0), branch(leaf(n), leaf(0)))} {
			want := n == -1 && i == 3
			if ok, e := search.Accepts(p, proof); e != api.OK || ok != want {
				t.Error(n, i, ok, e)
			}
		}
	}
}

// P15.2: a rule is named only when all its variables have values.
func TestAcceptsLater(t *testing.T) {
	domains := alike(5, 6)
	for last := range 5 {
		for first := range last + 1 {
			r := order(last, first) // broken, if it has two variables
			if first == last {
				r = never(last)
			}
			proof := leaf(1)
			for depth := range 8 {
				want := depth > last && depth <= 5
				if ok, e := search.Accepts(problem(domains, differ(0), r), proof); e != api.OK || ok != want {
					t.Error(first, last, depth, ok)
				}
				proof = branch(proof)
			}
		}
	}
}

// somewhere returns a proof with a change at one place of it.
func somewhere(r *rand.Rand, t api.Proof, change func(t api.Proof) api.Proof) api.Proof {
	if len(t.Kids) == 0 || r.Intn(4) == 0 {
		return change(t)
	}
	kids := slices.Clone(t.Kids)
	i := r.Intn(len(kids))
	kids[i] = somewhere(r, kids[i], change)
	return api.Proof{Rule: t.Rule, Kids: kids}
}

// changes returns ways in which a proof can be changed by chance. Some make a right proof of a right one.
func changes(r *rand.Rand, rules int) []func(t api.Proof) api.Proof {
	anyLeaf := func() api.Proof { return leaf(r.Intn(rules+3) - 2) }
	return []func(t api.Proof) api.Proof{
		func(t api.Proof) api.Proof { return anyLeaf() },
		func(t api.Proof) api.Proof { return api.Proof{Rule: anyLeaf().Rule, Kids: t.Kids} },
		func(t api.Proof) api.Proof {
			return api.Proof{Rule: t.Rule, Kids: append(slices.Clone(t.Kids), anyLeaf())}
		},
		func(t api.Proof) api.Proof { return api.Proof{Rule: t.Rule, Kids: t.Kids[:len(t.Kids)/2]} },
		func(t api.Proof) api.Proof { return branch(t, t) },
		func(t api.Proof) api.Proof { return branch(t) },
		func(t api.Proof) api.Proof { return branch(t, anyLeaf()) },
		func(t api.Proof) api.Proof {
			kids := slices.Clone(t.Kids)
			r.Shuffle(len(kids), func(i, k int) { kids[i], kids[k] = kids[k], kids[i] })
			return api.Proof{Rule: t.Rule, Kids: kids}
		},
	}
}

// P15.2: proofs that are changed by chance.
func TestAcceptsChanged(t *testing.T) {
	r := rand.New(rand.NewSource(4))
	met := [2]int{}
	for range 4000 {
		p := anyProblem(r, 1+r.Intn(4), 1+r.Intn(3), 1+r.Intn(7))
		l := changes(r, len(p.Rules))
		for i := range 12 {
			proof := proofOfSome(r, p, nil)
			if t, ok, _ := search.Refute(p); ok && i%2 == 0 {
				proof = t
			}
			for range i / 3 {
				proof = somewhere(r, proof, l[r.Intn(len(l))])
			}
			right, e := search.Accepts(p, proof)
			if e != api.OK || right != isRight(p, proof, nil) {
				t.Fatal(p, proof, right, e)
			}
			if right {
				met[1]++
			} else {
				met[0]++
			}
		}
	}
	if met[0] < 1000 || met[1] < 1000 {
		t.Error(met)
	}
}

// proofOfSome returns what comes nearest to a proof for a problem that may have solutions.
func proofOfSome(r *rand.Rand, p api.Problem, x []int) api.Proof {
	if len(x) == len(p.Domains) {
		if l := brokenBy(p, x); len(l) > 0 {
			return leaf(l[r.Intn(len(l))])
		}
		return leaf(r.Intn(len(p.Rules)))
	}
	t := branch()
	for _, v := range p.Domains[len(x)] {
		t.Kids = append(t.Kids, proofOfSome(r, p, append(slices.Clone(x), v)))
	}
	return t
}

// P15.2: a proof that is longer than the problem, or has itself within it, is examined no further than the problem goes.
func TestEndlessProof(t *testing.T) {
	kids := make([]api.Proof, 2)
	endless := branch(kids...)
	kids[0], kids[1] = endless, endless
	deep := leaf(0)
	for range 1 << 15 {
		deep = branch(deep, leaf(0))
	}
	for _, p := range []api.Problem{problem(alike(1, 1, 2), never(0)), problem(alike(12, 1, 2), never(11)), problem(alike(3, 1, 2))} {
		for i, proof := range []api.Proof{endless, deep, branch(leaf(0), endless), branch(leaf(0), deep)} {
			if ok, e := search.Accepts(p, proof); e != api.OK || ok {
				t.Error(i, ok, e)
			}
		}
	}
}

// P15.2: the greatest proofs.
func TestGreatProof(t *testing.T) {
	for i, p := range []api.Problem{problem(sized(16, 16, 16, 16), never(3)), problem(sized(2, 2, 2, 2, 2, 2, 2, 2, 4, 4, 4, 4), never(11)), problem(sized(1, 1, 1, 1, 1, 1, 1, 1, 16, 16, 16, 16), never(11)), problem(sized(16, 16, 16, 16, 1, 1, 1, 1, 1, 1, 1, 1), never(11))} {
		proof, ok, e := search.Refute(p)
		if right, f := search.Accepts(p, proof); e != api.OK || !ok || f != api.OK || !right || leaves(proof) != 65536 {
			t.Error(i, ok, e, right, f)
		}
		last := &proof
		for len(last.Kids) > 0 {
			last = &last.Kids[len(last.Kids)-1]
		}
		last.Rule = 1
		if right, f := search.Accepts(p, proof); f != api.OK || right {
			t.Error(i, right, f)
		}
	}
}

// leaves counts the rules that a proof names.
func leaves(t api.Proof) (n int) {
	if len(t.Kids) == 0 {
		return 1
	}
	for _, kid := range t.Kids {
		n += leaves(kid)
	}
	return n
}
