package flow_test

import (
	"math/rand"
	"slices"
	"testing"

	"fasti/api"
	"fasti/flow"
)

// P13.3: each flow and each side of networks that have few of them. Some flow and some side are equal.
func TestNoFlowAboveCut(t *testing.T) {
	r := rand.New(rand.NewSource(5))
	for range 200 {
		n := anyNet(r, 3+r.Intn(3), 6, 2)
		var values, cuts []int
		for code := range 729 {
			f := make([]int, 6)
			for k := range f {
				f[k] = code % 3
				code /= 3
			}
			if v, e := flow.Value(n, f); e == api.OK {
				values = append(values, v)
			}
		}
		for _, side := range sides(n) {
			if c, e := flow.Cut(n, side); e == api.OK {
				cuts = append(cuts, c)
			}
		}
		if slices.Max(values) != slices.Min(cuts) || slices.Max(values) != greatest(n) {
			t.Fatal(n, values, cuts)
		}
	}
}

// P13.3: what Max returns for large networks, by Value and Cut; no side by chance has a cut that is less.
func TestFlowIsCut(t *testing.T) {
	r := rand.New(rand.NewSource(6))
	for range 100 {
		n := anyNet(r, 2+r.Intn(63), r.Intn(513), 1<<30)
		f, side, e := flow.Max(n)
		v, g := flow.Value(n, f)
		c, h := flow.Cut(n, side)
		if e != api.OK || g != api.OK || h != api.OK || v != c {
			t.Fatal(n, v, c, e, g, h)
		}
		for range 50 {
			other := slices.Clone(side)
			for range 1 + r.Intn(5) {
				k := r.Intn(n.Nodes)
				other[k] = !other[k]
			}
			other[n.Source], other[n.Sink] = true, false
			if c, e := flow.Cut(n, other); e != api.OK || c < v || c == v && !contains(other, side) {
				t.Fatal(n, other, c, v)
			}
		}
	}
}

// P13.4: a line of arcs, at each of which a least cut may be.
func TestLeastOfLine(t *testing.T) {
	for _, nodes := range []int{2, 3, 10, 64} {
		for least := range nodes - 1 {
			for other := least; other < nodes-1; other++ {
				n := net(nodes)
				for k := range nodes - 1 {
					n.Arcs = append(n.Arcs, arc(k, k+1, 5+k%2))
				}
				n.Arcs[least].Cap, n.Arcs[other].Cap = 3, 3
				side := make([]bool, nodes)
				for k := range least + 1 {
					side[k] = true
				}
				if !right(n, 3, side) {
					t.Fatal(nodes, least, other)
				}
			}
		}
	}
}

// P13.4: the side is the least one exactly if the value grows with an arc from any vertex of it, other than the source, to the sink, and does not with one from another vertex.
func TestLeastByFurtherArcs(t *testing.T) {
	r := rand.New(rand.NewSource(7))
	for i := range 60 {
		n := anyNet(r, 5+r.Intn(60), 60+r.Intn(452), 1+r.Intn(4))
		if i%2 == 0 {
			n = rows(r, 6, 1+r.Intn(10), 300, 2)
		}
		value := greatest(n)
		_, side, e := flow.Max(n)
		if e != api.OK {
			t.Fatal(e)
		}
		for v := range n.Nodes {
			if v == n.Source || v == n.Sink {
				continue
			}
			more := n
			more.Arcs = append(slices.Clone(n.Arcs), arc(v, n.Sink, 1))
			if grows := greatest(more) > value; grows != side[v] {
				t.Fatal(n, v, side)
			}
		}
	}
}

// some returns networks by chance of all sizes.
func some(r *rand.Rand, count, most int) (l []api.Flownet) {
	for i := range count {
		if i%2 == 0 {
			l = append(l, rows(r, 1+r.Intn(8), 1+r.Intn(7), r.Intn(200), most))
		} else {
			l = append(l, anyNet(r, 2+r.Intn(63), r.Intn(513), most))
		}
	}
	return l
}

// P13.5: all caps are multiplied.
func TestMultiplied(t *testing.T) {
	r := rand.New(rand.NewSource(8))
	for _, n := range some(r, 150, 1<<10) {
		value := greatest(n)
		_, side, _ := flow.Max(n)
		for _, by := range []int{1, 2, 3, 1000, 1<<20 - 1, 1 << 20} {
			m := with(n, func(a api.Arc) api.Arc { return arc(a.From, a.To, a.Cap*by) })
			if value < 0 || !right(m, value*by, side) {
				t.Fatal(n, by)
			}
		}
	}
}

// P13.5: all arcs are turned round, and the source and the sink exchanged.
func TestTurned(t *testing.T) {
	r := rand.New(rand.NewSource(9))
	for _, n := range some(r, 300, 100) {
		m := with(n, func(a api.Arc) api.Arc { return arc(a.To, a.From, a.Cap) })
		m.Source, m.Sink = n.Sink, n.Source
		if v := greatest(n); v < 0 || v != greatest(m) {
			t.Fatal(n, v)
		}
	}
}

// P13.5: one arc takes more.
func TestGreaterCap(t *testing.T) {
	r := rand.New(rand.NewSource(10))
	grown := 0
	for _, n := range some(r, 200, 20) {
		value := greatest(n)
		_, side, _ := flow.Max(n)
		for range min(20, len(n.Arcs)) {
			k, more := r.Intn(len(n.Arcs)), 1+r.Intn(5)
			m := n
			m.Arcs = slices.Clone(n.Arcs)
			m.Arcs[k].Cap += more
			leadsOut := side[n.Arcs[k].From] && !side[n.Arcs[k].To]
			v := greatest(m)
			if value < 0 || v < value || v > value+more || v > value && !leadsOut {
				t.Fatal(n, k, more, value, v)
			}
			if v > value {
				grown++
			}
		}
	}
	if grown < 50 {
		t.Error("values grew", grown)
	}
}

// R8 admits any of the greatest flows, and R6 wants equal calls to be equal: the order of the arcs, and arcs of the same ends, change neither the value nor the side.
func TestOrderOfArcs(t *testing.T) {
	r := rand.New(rand.NewSource(11))
	for _, n := range some(r, 100, 9) {
		value := greatest(n)
		_, side, _ := flow.Max(n)
		m := with(n, func(a api.Arc) api.Arc { return a })
		r.Shuffle(len(m.Arcs), func(i, k int) { m.Arcs[i], m.Arcs[k] = m.Arcs[k], m.Arcs[i] })
		if !right(m, value, side) {
			t.Fatal(n)
		}
		if len(n.Arcs) > 256 {
			continue
		}
		m.Arcs = append(m.Arcs, m.Arcs...)
		if !right(m, 2*value, side) {
			t.Fatal(n)
		}
	}
}
