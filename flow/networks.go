package flow

import "fasti/api"

// joins reports whether a network has two vertices, and whether they are different.
func joins(n api.Flownet, a, b int) bool {
	return a >= 0 && a < n.Nodes && b >= 0 && b < n.Nodes && a != b
}

// hasArcs reports whether the arcs of a network join its vertices, and have capacities.
func hasArcs(n api.Flownet) bool {
	for _, a := range n.Arcs {
		if !joins(n, a.From, a.To) || a.Cap < 0 || a.Cap > api.MaxCap {
			return false
		}
	}
	return true
}

// fits reports whether there is a number for each arc, and whether the arc takes it.
func fits(n api.Flownet, flow []int) bool {
	if len(flow) != len(n.Arcs) {
		return false
	}
	for i, a := range n.Arcs {
		if flow[i] < 0 || flow[i] > a.Cap {
			return false
		}
	}
	return true
}

// excesses returns, for each vertex, what leaves it, less what enters it. The numbers of the flow fit, so no sum overflows.
func excesses(n api.Flownet, flow []int) (excess [api.MaxVertices]int) {
	for i, a := range n.Arcs {
		excess[a.From] += flow[i]
		excess[a.To] -= flow[i]
	}
	return excess
}

// passesOn reports whether as much leaves each vertex other than the source and the sink as enters it.
func passesOn(n api.Flownet, excess [api.MaxVertices]int) bool {
	for v, x := range excess {
		if x != 0 && v != n.Source && v != n.Sink {
			return false
		}
	}
	return true
}
