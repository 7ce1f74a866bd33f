package search

import "fasti/api"

// mostRows is the greatest number of rows of a table.
const mostRows = 256

// small reports whether a problem has no more variables, values and rules than are admitted, and no larger rules.
func small(p api.Problem) bool {
	if len(p.Domains) > api.MaxVars || len(p.Rules) > api.MaxRules {
		return false
	}
	for _, values := range p.Domains {
		if len(values) > api.MaxValues {
			return false
		}
	}
	for _, r := range p.Rules {
		if len(r.Vars) > api.MaxVars || !smallTable(r.Table) {
			return false
		}
	}
	return true
}

// smallTable reports whether a table has no more rows, and no longer ones, than are admitted.
func smallTable(table [][]int) bool {
	if len(table) > mostRows {
		return false
	}
	for _, row := range table {
		if len(row) > api.MaxVars {
			return false
		}
	}
	return true
}

// valid reports whether a problem has variables, each of which has values, and valid rules only.
func valid(p api.Problem) bool {
	if len(p.Domains) == 0 {
		return false
	}
	for _, values := range p.Domains {
		if !isDomain(values) {
			return false
		}
	}
	for _, r := range p.Rules {
		if !isOver(r.Vars, len(p.Domains)) || !fits(rule(r)) {
			return false
		}
	}
	return true
}

// isDomain reports whether values are at least one, from 0 to the last day, in strictly increasing order.
func isDomain(values []int) bool {
	last := -1
	for _, v := range values {
		if v <= last || v > api.MaxDay {
			return false
		}
		last = v
	}
	return len(values) > 0
}

// isOver reports whether a list has at least one variable, and only different ones of those below count.
func isOver(vars []int, count int) bool {
	var taken [api.MaxVars]bool
	for _, v := range vars {
		if v < 0 || v >= count || taken[v] {
			return false
		}
		taken[v] = true
	}
	return len(vars) > 0
}

// short reports whether a problem has no more assignments than are admitted. A small problem has no more than an int can hold.
func short(p api.Problem) bool {
	tries := 1
	for _, values := range p.Domains {
		tries *= len(values)
	}
	return tries <= api.MaxTries
}
