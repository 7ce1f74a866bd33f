package search

import (
	"iter"
	"slices"

	"fasti/api"
)

// branch stands for the rule of a proof that has a proof for each value of the next variable.
const branch = -1

// A space is what a search goes through: the values of a problem, one variable after the other, and its rules.
type space struct {
	domains [][]int
	rules   []rule
	kinds   [api.OrderR + 1]kind
	due     [api.MaxVars + 1][]int // by the number of the values with which rules can be decided, but with none less
}

// newSpace makes the rules of a valid problem ready.
func newSpace(p api.Problem) *space {
	s := &space{domains: p.Domains, kinds: kinds()}
	for i, r := range p.Rules {
		r.Table = slices.Clone(r.Table)
		slices.SortFunc(r.Table, slices.Compare[[]int])
		s.rules = append(s.rules, rule(r))
		k := slices.Max(r.Vars) + 1
		s.due[k] = append(s.due[k], i)
	}
	return s
}

// noValues returns what a search begins with. It has room for a value of each variable.
func noValues() []int { return make([]int, 0, api.MaxVars) }

// contains reports whether a list is an assignment.
func (s *space) contains(x []int) bool {
	if len(x) != len(s.domains) {
		return false
	}
	for k, v := range x {
		if !slices.Contains(s.domains[k], v) {
			return false
		}
	}
	return true
}

// keeps reports whether values fulfil a rule all of whose variables have one.
func (s *space) keeps(i int, x []int) bool {
	r := &s.rules[i]
	return s.kinds[r.Kind].keeps(r, x)
}

// decided yields, in increasing order, the rules that the last one of some values breaks: without it they could not be decided.
func (s *space) decided(x []int) iter.Seq[int] {
	return func(yield func(i int) bool) {
		for _, i := range s.due[len(x)] {
			if !s.keeps(i, x) && !yield(i) {
				return
			}
		}
	}
}

// assignments yields the assignments in lexicographic order, with the rules that each one breaks. It skips all that begin with values by which a rule of avoid is broken. What it yields holds until it goes on.
func (s *space) assignments(avoid set) iter.Seq2[[]int, set] {
	return func(yield func(x []int, broken set) bool) {
		var extend func(x []int, broken set) (more bool)
		extend = func(x []int, broken set) (more bool) {
			k := len(x)
			if k == len(s.domains) {
				return yield(x, broken)
			}
		values:
			for _, v := range s.domains[k] {
				longer, met := append(x, v), broken
				for i := range s.decided(longer) {
					if met = met.with(i); met&avoid != 0 {
						continue values
					}
				}
				if !extend(longer, met) {
					return false
				}
			}
			return true
		}
		extend(noValues(), 0)
	}
}

// proof forms the proof for values, unless a solution begins with them. They break no rule but those that the last one of them decides.
func (s *space) proof(x []int) (t api.Proof, ok bool) {
	for i := range s.decided(x) {
		return api.Proof{Rule: i}, true
	}
	k := len(x)
	if k == len(s.domains) {
		return api.Proof{}, false
	}
	t = api.Proof{Rule: branch, Kids: make([]api.Proof, len(s.domains[k]))}
	for i, v := range s.domains[k] {
		if t.Kids[i], ok = s.proof(append(x, v)); !ok {
			return api.Proof{}, false
		}
	}
	return t, true
}

// right reports whether a proof is right for values.
func (s *space) right(t api.Proof, x []int) bool {
	if t.Rule != branch {
		return len(t.Kids) == 0 && s.breaks(t.Rule, x)
	}
	k := len(x)
	if k == len(s.domains) || len(t.Kids) != len(s.domains[k]) {
		return false
	}
	for i, v := range s.domains[k] {
		if !s.right(t.Kids[i], append(x, v)) {
			return false
		}
	}
	return true
}

// breaks reports whether there is a rule with an index, all its variables have values, and it is broken by these.
func (s *space) breaks(i int, x []int) bool {
	return i >= 0 && i < len(s.rules) && slices.Max(s.rules[i].Vars) < len(x) && !s.keeps(i, x)
}
