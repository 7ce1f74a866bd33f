package search

import (
	"cmp"
	"slices"

	"fasti/api"
)

// A rule is a rule of a problem. Before it is decided, its table is put into increasing order.
type rule api.Rule

// A kind of rules says which of them are valid, and which values of all variables up to their last one they permit.
type kind struct {
	fits  func(r *rule) bool
	keeps func(r *rule, x []int) bool
}

// kinds returns the kinds, each at its number.
func kinds() [api.OrderR + 1]kind {
	return [...]kind{
		api.TableR:  {(*rule).hasRows, (*rule).listed},
		api.DifferR: {(*rule).isPlain, (*rule).differ},
		api.ApartR:  {(*rule).hasGap, (*rule).apart},
		api.OrderR:  {(*rule).isPlain, (*rule).ordered},
	}
}

// fits reports whether a rule is one of a kind, and has what its kind asks for.
func fits(r rule) bool {
	return r.Kind >= api.TableR && r.Kind <= api.OrderR && kinds()[r.Kind].fits(&r)
}

func (r *rule) hasRows() bool {
	for _, row := range r.Table {
		if len(row) != len(r.Vars) {
			return false
		}
	}
	return r.N == 0
}

func (r *rule) isPlain() bool { return r.N == 0 && len(r.Table) == 0 }

func (r *rule) hasGap() bool { return r.N >= 1 && r.N <= api.MaxDay && len(r.Table) == 0 }

// listed looks for a row of the table, which is in increasing order, that has the values of the variables.
func (r *rule) listed(x []int) bool {
	_, found := slices.BinarySearchFunc(r.Table, x, r.compare)
	return found
}

// compare compares a row of the table with the values of the variables.
func (r *rule) compare(row, x []int) int {
	for i, v := range r.Vars {
		if c := cmp.Compare(row[i], x[v]); c != 0 {
			return c
		}
	}
	return 0
}

func (r *rule) differ(x []int) bool { return r.distant(x, 1) }

func (r *rule) apart(x []int) bool { return r.distant(x, r.N) }

// distant reports whether the values of the variables differ pairwise by at least n.
func (r *rule) distant(x []int, n int) bool {
	for i, v := range r.Vars {
		for _, w := range r.Vars[:i] {
			if max(x[v]-x[w], x[w]-x[v]) < n {
				return false
			}
		}
	}
	return true
}

// ordered reports whether each value, in the order of the variables, is greater than the one before it.
func (r *rule) ordered(x []int) bool {
	for i, v := range r.Vars[1:] {
		if x[v] <= x[r.Vars[i]] {
			return false
		}
	}
	return true
}
