package flow_test

import (
	"math/rand"
	"slices"
	"testing"

	"fasti/api"
	"fasti/flow"
)

// P13.2: the examples, and networks whose flow can be seen.
func TestMax(t *testing.T) {
	for i, x := range []struct {
		n     api.Flownet
		value int
		side  []bool
	}{
		{net(2), 0, []bool{true, false}},
		{net(4), 0, []bool{true, false, false, false}},
		{between(2, 0, 3), 0, []bool{false, false, true}},
		{net(2, arc(0, 1, 0)), 0, []bool{true, false}},
		{net(2, arc(1, 0, 9)), 0, []bool{true, false}},
		{net(2, arc(0, 1, 7), arc(0, 1, 1), arc(1, 0, 5)), 8, []bool{true, false}},
		{net(2, copies(512, arc(0, 1, 1<<30))...), 1 << 39, []bool{true, false}},
		{between(1, 0, 2, arc(0, 1, 7), arc(1, 0, 5)), 5, []bool{false, true}},
		{net(3, arc(0, 1, 9), arc(1, 2, 4)), 4, []bool{true, true, false}},
		{net(3, arc(0, 1, 4), arc(1, 2, 9)), 4, []bool{true, false, false}},
		{net(3, arc(0, 1, 4), arc(1, 2, 4)), 4, []bool{true, false, false}},
		{net(3, arc(0, 1, 4), arc(1, 2, 0)), 0, []bool{true, true, false}},
		{net(3, arc(0, 1, 0), arc(1, 2, 4)), 0, []bool{true, false, false}},
		{net(3, append(copies(256, arc(0, 1, 1<<30)), copies(256, arc(1, 2, 1<<30))...)...), 1 << 38, []bool{true, false, false}},
		{net(3, append(copies(257, arc(0, 1, 1<<30)), copies(255, arc(1, 2, 1<<30))...)...), 255 << 30, []bool{true, true, false}},
		{net(4, arc(0, 1, 3), arc(0, 2, 2), arc(1, 2, 5), arc(1, 3, 2), arc(2, 3, 3)), 5, []bool{true, false, false, false}},
		// what goes 0-1-2-3 if that way is taken first is taken back between 1 and 2
		{net(4, arc(0, 1, 1), arc(1, 2, 1), arc(2, 3, 1), arc(0, 2, 1), arc(1, 3, 1)), 2, []bool{true, false, false, false}},
		// vertices that only lead to others, or are only led to
		{net(5, arc(1, 0, 5), arc(1, 4, 5), arc(0, 2, 5), arc(4, 2, 5), arc(0, 4, 3)), 3, []bool{true, false, true, false, false}},
		// the source and the sink within a ring
		{between(1, 3, 4, arc(0, 1, 9), arc(1, 2, 9), arc(2, 3, 4), arc(3, 0, 9)), 4, []bool{false, true, true, false}},
		// 1 is not in the side although its arc to the sink is full: 0-1 is full, too
		{net(4, arc(0, 1, 2), arc(1, 3, 2), arc(0, 2, 5), arc(2, 3, 1)), 3, []bool{true, false, true, false}},
		// 1 is in the side since what is pushed to it can be taken back from 2
		{net(4, arc(0, 2, 3), arc(1, 2, 2), arc(2, 3, 2), arc(0, 1, 1)), 2, []bool{true, true, true, false}},
	} {
		if !right(x.n, x.value, x.side) {
			f, side, e := flow.Max(x.n)
			t.Error(i, f, side, e)
		}
	}
}

// P13.2: the flow of the example in the section 'Examples', which is the only one.
func TestOnlyFlow(t *testing.T) {
	f, side, e := flow.Max(net(3, arc(0, 1, 9), arc(1, 2, 4)))
	if e != api.OK || !slices.Equal(f, []int{4, 4}) || !slices.Equal(side, []bool{true, true, false}) {
		t.Error(f, side, e)
	}
	f, side, e = flow.Max(net(4, arc(0, 1, 9), arc(3, 2, 5), arc(1, 3, 9), arc(0, 3, 2), arc(1, 0, 1)))
	if e != api.OK || !slices.Equal(f, []int{9, 0, 9, 2, 0}) || !slices.Equal(side, []bool{true, false, false, false}) {
		t.Error(f, side, e)
	}
	if f, _, e = flow.Max(net(2)); e != api.OK || len(f) != 0 {
		t.Error(f, e)
	}
}

// P13.2, P13.3, P13.4: all networks of three vertices and four arcs, with small caps, in all orders.
func TestMaxOfAllSmall(t *testing.T) {
	var pieces []api.Arc
	for _, ends := range [][2]int{{0, 1}, {1, 0}, {0, 2}, {2, 0}, {1, 2}, {2, 1}} {
		for most := range 3 {
			pieces = append(pieces, arc(ends[0], ends[1], most))
		}
	}
	for _, a := range pieces {
		for _, b := range pieces {
			for _, c := range pieces {
				for _, d := range pieces {
					n := between(1, 0, 3, a, b, c, d)
					if value, side := leastCut(n); !right(n, value, side) {
						t.Fatal(n)
					}
				}
			}
		}
	}
}

// P13.2, P13.3, P13.4: networks by chance, against all their sides.
func TestMaxAgainstAllSides(t *testing.T) {
	r := rand.New(rand.NewSource(13))
	for i := range 6000 {
		nodes := 2 + r.Intn(8)
		n := anyNet(r, nodes, r.Intn(4*nodes), []int{1, 2, 3, 10, 1 << 30}[i%5])
		if i%3 == 0 {
			n = rows(r, 1+r.Intn(3), 1+r.Intn(2), r.Intn(30), 1+r.Intn(5))
		}
		if value, side := leastCut(n); !right(n, value, side) {
			f, s, e := flow.Max(n)
			t.Fatal(n, value, side, f, s, e)
		}
	}
}

// P13.2: the value is the greatest one of all flows, however the flows are found.
func TestMaxAgainstAllFlows(t *testing.T) {
	r := rand.New(rand.NewSource(2))
	for range 300 {
		n := anyNet(r, 3+r.Intn(3), 1+r.Intn(6), 2)
		best := 0
		for code := range 729 {
			f := make([]int, len(n.Arcs))
			for k := range f {
				f[k] = code % 3
				code /= 3
			}
			if v, ok := valueOf(n, f); ok {
				best = max(best, v)
			}
		}
		if greatest(n) != best {
			t.Fatal(n, best)
		}
	}
}

// P13.2: large networks, against a reference that finds way after way in a table.
func TestMaxOfLarge(t *testing.T) {
	r := rand.New(rand.NewSource(3))
	for i := range 400 {
		most := []int{1, 3, 20, 1 << 30}[i%4]
		n := anyNet(r, 30+r.Intn(35), 100+r.Intn(413), most)
		switch i % 5 {
		case 0:
			n = rows(r, 2+r.Intn(11), 1+r.Intn(5), 512, most)
		case 1:
			n = rows(r, 31, 2, 512, most)
		case 2:
			n = rows(r, 20, 3, 300, most)
		}
		if value, side := reference(n); !right(n, value, side) {
			t.Fatal(i, n)
		}
	}
}

// R1: networks on which a flow that grows by ways that are not chosen well would grow a billion times.
func TestMaxEnds(t *testing.T) {
	const much = 1 << 30
	n := net(4, arc(0, 1, much), arc(1, 2, 1), arc(0, 2, much), arc(1, 3, much), arc(2, 3, much), arc(2, 1, 1))
	if !right(n, 2*much, []bool{true, false, false, false}) {
		t.Error("square")
	}
	// squares in a row, each of which can be crossed by an arc of 1
	var arcs []api.Arc
	for k := range 21 {
		v := 3 * k
		arcs = append(arcs, arc(v, v+1, much), arc(v, v+2, much), arc(v+1, v+2, 1), arc(v+2, v+1, 1), arc(v+1, v+3, much), arc(v+2, v+3, much))
	}
	if n := net(64, arcs...); !right(n, 2*much, append([]bool{true}, make([]bool, 63)...)) {
		t.Error("squares")
	}
	// many ways, all of which end before the sink
	arcs = arcs[:0]
	for row := range 31 {
		for k := range 4 {
			arcs = append(arcs, arc(2*row+k/2, 2*row+2+k%2, much))
		}
	}
	all := slices.Repeat([]bool{true}, 64)
	all[63], all[62], all[1] = false, true, false
	n = between(0, 63, 64, arcs[:len(arcs)-4]...)
	n.Arcs = append(n.Arcs, arc(60, 62, much), arc(61, 62, much))
	if !right(n, 0, all) {
		t.Error("dead ends")
	}
	n.Arcs = append(n.Arcs, arc(62, 63, 1))
	if !right(n, 1, all) {
		t.Error("dead ends but one")
	}
}
