package flow_test

import (
	"math/rand"
	"slices"

	"fasti/api"
	"fasti/flow"
)

func arc(from, to, most int) api.Arc { return api.Arc{From: from, To: to, Cap: most} }

// net returns a network from the vertex 0 to the last one.
func net(nodes int, arcs ...api.Arc) api.Flownet {
	return api.Flownet{Nodes: nodes, Sink: nodes - 1, Arcs: arcs}
}

// between returns a network with another source and sink.
func between(source, sink, nodes int, arcs ...api.Arc) api.Flownet {
	return api.Flownet{Nodes: nodes, Source: source, Sink: sink, Arcs: arcs}
}

// copies returns an arc n times.
func copies(n int, a api.Arc) (l []api.Arc) {
	for range n {
		l = append(l, a)
	}
	return l
}

// with returns a network with other arcs than it has: what change makes of them.
func with(n api.Flownet, change func(a api.Arc) api.Arc) api.Flownet {
	l := slices.Clone(n.Arcs)
	for i, a := range l {
		l[i] = change(a)
	}
	n.Arcs = l
	return n
}

// anyNet returns a network by chance with caps of at most most.
func anyNet(r *rand.Rand, nodes, arcs, most int) api.Flownet {
	p := r.Perm(nodes)
	n := between(p[0], p[1], nodes)
	for range arcs {
		q := r.Perm(nodes)
		n.Arcs = append(n.Arcs, arc(q[0], q[1], r.Intn(most+1)))
	}
	return n
}

// rows returns a network by chance whose vertices stand in rows, with arcs from each row to the next one, and some others. So the way to the sink is long, and there are many.
func rows(r *rand.Rand, count, width, arcs, most int) api.Flownet {
	nodes := count*width + 2
	at := func(row int) int {
		switch row {
		case -1:
			return 0
		case count:
			return nodes - 1
		}
		return 1 + row*width + r.Intn(width)
	}
	n := net(nodes)
	for len(n.Arcs) < arcs {
		row := r.Intn(count+1) - 1
		a := arc(at(row), at(row+1), r.Intn(most+1))
		if r.Intn(8) == 0 {
			a.From, a.To = a.To, a.From
		}
		n.Arcs = append(n.Arcs, a)
	}
	return n
}

// sides returns all sides of a small network.
func sides(n api.Flownet) (l [][]bool) {
	for bits := range 1 << n.Nodes {
		side := make([]bool, n.Nodes)
		for v := range side {
			side[v] = bits>>v&1 == 1
		}
		if side[n.Source] && !side[n.Sink] {
			l = append(l, side)
		}
	}
	return l
}

// cutOf returns what leads out of a side, arc by arc.
func cutOf(n api.Flownet, side []bool) (c int) {
	for _, a := range n.Arcs {
		if side[a.From] && !side[a.To] {
			c += a.Cap
		}
	}
	return c
}

// valueOf returns the value of what may be a flow, and whether it is one.
func valueOf(n api.Flownet, f []int) (v int, ok bool) {
	if len(f) != len(n.Arcs) {
		return 0, false
	}
	for i, a := range n.Arcs {
		if f[i] < 0 || f[i] > a.Cap {
			return 0, false
		}
	}
	for at := range n.Nodes {
		out, in := 0, 0
		for i, a := range n.Arcs {
			if a.From == at {
				out += f[i]
			}
			if a.To == at {
				in += f[i]
			}
		}
		if at == n.Source {
			v = out - in
		} else if at != n.Sink && in != out {
			return 0, false
		}
	}
	return v, true
}

// leastCut returns the least cut of a small network, and the side that all sides with it have in common.
func leastCut(n api.Flownet) (least int, common []bool) {
	least = 1 << 62
	for _, side := range sides(n) {
		switch c := cutOf(n, side); {
		case c < least:
			least, common = c, slices.Clone(side)
		case c == least:
			for v := range common {
				common[v] = common[v] && side[v]
			}
		}
	}
	return least, common
}

// contains reports whether a side contains the vertices of another one.
func contains(side, other []bool) bool {
	for v, in := range other {
		if in && !side[v] {
			return false
		}
	}
	return true
}

// A table is a reference for networks of any size: what may flow from each vertex to each other one, whatever the arcs are.
type table [api.MaxVertices][api.MaxVertices]int

func tableOf(n api.Flownet) *table {
	var t table
	for _, a := range n.Arcs {
		t[a.From][a.To] += a.Cap
	}
	return &t
}

// widest returns from where each vertex is reached by ways that take at least least, or -1, beginning with the source.
func (t *table) widest(n api.Flownet, least int) (from [api.MaxVertices]int) {
	for v := range from {
		from[v] = -1
	}
	from[n.Source] = n.Source
	for stack := []int{n.Source}; len(stack) > 0; {
		v := stack[len(stack)-1]
		stack = stack[:len(stack)-1]
		for w := range n.Nodes {
			if from[w] < 0 && t[v][w] >= least {
				from[w] = v
				stack = append(stack, w)
			}
		}
	}
	return from
}

// reference returns the greatest value of a flow, and the vertices that can still be reached then, by way after way, the widest ones first.
func reference(n api.Flownet) (value int, side []bool) {
	t := tableOf(n)
	for least := 1 << 40; least > 0; {
		from := t.widest(n, least)
		if from[n.Sink] < 0 {
			least /= 2
			continue
		}
		for v := n.Sink; v != n.Source; v = from[v] {
			t[from[v]][v] -= least
			t[v][from[v]] += least
		}
		value += least
	}
	from := t.widest(n, 1)
	for v := range n.Nodes {
		side = append(side, from[v] >= 0)
	}
	return value, side
}

// greatest returns the value of the flow that Max returns, or -1.
func greatest(n api.Flownet) int {
	f, _, e := flow.Max(n)
	if v, ok := valueOf(n, f); ok && e == api.OK {
		return v
	}
	return -1
}

// right reports whether Max returns a flow of a value, and a side.
func right(n api.Flownet, value int, side []bool) bool {
	f, s, e := flow.Max(n)
	v, ok := valueOf(n, f)
	return e == api.OK && ok && v == value && slices.Equal(s, side) && cutOf(n, s) == value
}
