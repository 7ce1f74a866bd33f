package flow

import (
	"iter"

	"fasti/api"
)

// plenty is the most that all arcs together may take.
const plenty = api.MaxArcs * api.MaxCap

// unreached is the level of a vertex that cannot be reached; the source has the level 1.
const unreached = 0

// The ways in which an arc is passed. Flow that is pushed back along it is taken from it.
const (
	along = 0
	back  = 1
)

// A step passes an arc in one of its ways, and leads to a vertex.
type step struct{ arc, way, to int }

// A rest is what a flow leaves of a network.
type rest struct {
	n     api.Flownet
	left  [api.MaxArcs][2]int     // what each arc still takes, by the way
	steps [api.MaxVertices][]step // from each vertex
}

// wholeRest returns what is left as long as nothing flows.
func wholeRest(n api.Flownet) *rest {
	r := &rest{n: n}
	for i, a := range n.Arcs {
		r.left[i][along] = a.Cap
		r.steps[a.From] = append(r.steps[a.From], step{i, along, a.To})
		r.steps[a.To] = append(r.steps[a.To], step{i, back, a.From})
	}
	return r
}

// open yields the steps from a vertex that still take something, with their indices, from the index first on.
func (r *rest) open(v, first int) iter.Seq2[int, step] {
	return func(yield func(i int, s step) bool) {
		for i := first; i < len(r.steps[v]); i++ {
			s := r.steps[v][i]
			if r.left[s.arc][s.way] > 0 && !yield(i, s) {
				return
			}
		}
	}
}

// levels returns, for each vertex, how many vertices there are on a shortest way of open steps to it, with both ends.
// Only vertices that are nearer than the sink are of use; so the search ends at the sink, and is complete if it is not reached.
func (r *rest) levels() []int {
	level := make([]int, r.n.Nodes)
	level[r.n.Source] = 1
	row := []int{r.n.Source}
search:
	for len(row) > 0 {
		var next []int
		for _, v := range row {
			for _, s := range r.open(v, 0) {
				if level[s.to] != unreached {
					continue
				}
				level[s.to] = level[v] + 1
				if s.to == r.n.Sink {
					break search
				}
				next = append(next, s.to)
			}
		}
		row = next
	}
	return level
}

// fill pushes flow from level to level until nothing more gets from the source to the sink in this way. A vertex loses its level when nothing more gets through it.
func (r *rest) fill(level []int) {
	first := make([]int, r.n.Nodes) // the steps before these ones are no longer of use
	var push func(v, most int) int
	push = func(v, most int) (pushed int) {
		if v == r.n.Sink {
			return most
		}
		for i, s := range r.open(v, first[v]) {
			first[v] = i
			if level[s.to] != level[v]+1 {
				continue
			}
			m := push(s.to, min(most-pushed, r.left[s.arc][s.way]))
			r.left[s.arc][s.way] -= m
			r.left[s.arc][1-s.way] += m
			if pushed += m; pushed == most {
				return pushed
			}
		}
		level[v] = unreached
		return pushed
	}
	push(r.n.Source, plenty)
}

// flow returns what flows along each arc, which is what can be pushed back.
func (r *rest) flow() (l []int) {
	for i := range r.n.Arcs {
		l = append(l, r.left[i][back])
	}
	return l
}

// reached returns the side of the vertices that can be reached.
func reached(level []int) (side []bool) {
	for _, n := range level {
		side = append(side, n != unreached)
	}
	return side
}
