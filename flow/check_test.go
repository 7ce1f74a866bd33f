package flow_test

import (
	"math"
	"slices"
	"testing"

	"fasti/api"
	"fasti/flow"
)

var edges = []int{math.MinInt, math.MinInt + 1, -1 << 32, -1 << 31, -65, -2, -1, 64, 65, 66, 128, 256, 1 << 31, 1 << 32, 1<<32 + 1, math.MaxInt - 1, math.MaxInt}

// fails reports whether all functions return an error for a network, and nothing else.
func fails(n api.Flownet, want api.Errno) bool {
	v, e := flow.Value(n, make([]int, len(n.Arcs)))
	c, f := flow.Cut(n, []bool{true, false})
	l, s, g := flow.Max(n)
	return flow.Check(n) == want && e == want && f == want && g == want && v == 0 && c == 0 && len(l) == 0 && len(s) == 0
}

// P13.1
func TestCheckAccepts(t *testing.T) {
	full := net(64, copies(512, arc(62, 1, 1<<30))...)
	for i, n := range []api.Flownet{
		net(2), net(3), net(63), net(64), full, between(1, 0, 2), between(63, 0, 64), between(5, 6, 64), between(6, 5, 7),
		net(2, arc(0, 1, 0)), net(2, arc(1, 0, 0)), net(2, arc(0, 1, 1<<30)), net(2, arc(0, 1, 3), arc(0, 1, 3), arc(1, 0, 3), arc(1, 0, 4)),
		net(64, arc(63, 0, 1)), net(64, arc(0, 63, 1)), net(64, arc(61, 62, 1)), net(3, copies(512, arc(1, 0, 0))...),
		{Nodes: 2, Sink: 1, Arcs: []api.Arc{}},
	} {
		if e := flow.Check(n); e != api.OK {
			t.Error(i, e)
		}
	}
}

// P13.1: numbers of vertices, sources and sinks that are not admitted; these are found before anything else.
func TestCheckArg(t *testing.T) {
	tooMany := copies(513, arc(0, 1, 1))
	noArcs := []api.Arc{arc(0, 0, -1)}
	wrong := []api.Flownet{{}, net(0), net(1), net(-1), between(0, 0, 1), between(0, 1, 1), between(-1, 0, 1), between(0, 1, 0), between(0, 1, -2)}
	for _, x := range edges {
		if x != 64 {
			wrong = append(wrong, between(0, 1, x))
		}
		wrong = append(wrong, between(x, 1, 64), between(1, x, 64), between(x, x, 64), between(x, 1, 2), between(x, 0, 2), between(0, x, 2))
	}
	for _, nodes := range []int{2, 3, 10, 64} {
		for v := range nodes {
			wrong = append(wrong, between(v, v, nodes), between(v, nodes, nodes), between(nodes, v, nodes), between(v, -1, nodes), between(-1, v, nodes))
		}
	}
	for i, n := range wrong {
		for _, arcs := range [][]api.Arc{nil, {arc(0, 1, 1)}, noArcs, tooMany} {
			if n.Arcs = arcs; !fails(n, api.ErrArg) {
				t.Error(i, n.Nodes, n.Source, n.Sink, flow.Check(n))
			}
		}
	}
}

// P13.1: the number of arcs counts before what they are.
func TestCheckLimit(t *testing.T) {
	for i, n := range []api.Flownet{
		net(2, make([]api.Arc, 513)...), net(2, copies(513, arc(0, 1, 1))...), net(64, copies(514, arc(0, 1, 1))...), net(3, copies(1024, arc(1, 2, -1))...), net(3, copies(5000, arc(0, 1, 0))...),
	} {
		if !fails(n, api.ErrLimit) {
			t.Error(i, flow.Check(n))
		}
	}
}

// P13.1: arcs that are not admitted, as the only one, and among others.
func TestCheckFlow(t *testing.T) {
	wrong := []api.Arc{{}, arc(0, 0, 1), arc(1, 1, 1), arc(2, 2, 1), arc(3, 3, 1), arc(0, 3, 1), arc(3, 0, 1), arc(4, 3, 1), arc(-1, 0, 1), arc(0, -1, 1), arc(-1, -2, 1), arc(0, 1, -1), arc(0, 1, 1<<30+1), arc(1, 0, 1<<31)}
	for _, x := range edges {
		wrong = append(wrong, arc(x, 1, 1), arc(1, x, 1), arc(x, x, 1))
		if x < 0 || x > 1<<30 {
			wrong = append(wrong, arc(1, 2, x))
		}
	}
	for i, a := range wrong {
		for _, arcs := range [][]api.Arc{
			{a}, {a, arc(0, 1, 1)}, {arc(0, 1, 1), a}, {arc(0, 1, 1), a, arc(1, 2, 1)}, append(copies(511, arc(0, 1, 1)), a), append([]api.Arc{a}, copies(511, arc(0, 1, 1))...),
		} {
			if !fails(net(3, arcs...), api.ErrFlow) {
				t.Error(i, a, len(arcs))
			}
		}
	}
	if !fails(net(2, make([]api.Arc, 512)...), api.ErrFlow) {
		t.Error("512 arcs from 0 to 0")
	}
}

// P13.1
func TestValue(t *testing.T) {
	two := net(3, arc(0, 1, 9), arc(1, 2, 4))
	ring := net(4, arc(0, 1, 5), arc(1, 0, 5), arc(1, 2, 3), arc(2, 1, 3), arc(1, 3, 9), arc(3, 0, 2), arc(0, 3, 2))
	much := net(2, append(copies(256, arc(0, 1, 1<<30)), copies(256, arc(1, 0, 1<<30))...)...)
	numbers := func(out, in int) (l []int) {
		for range 256 {
			l = append(l, out)
		}
		for range 256 {
			l = append(l, in)
		}
		return l
	}
	for i, x := range []struct {
		n    api.Flownet
		flow []int
		v    int
	}{
		{net(2), nil, 0}, {net(2), []int{}, 0},
		{net(2, arc(1, 0, 2)), []int{2}, -2}, {net(2, arc(1, 0, 2)), []int{0}, 0}, {net(2, arc(0, 1, 2)), []int{2}, 2}, {between(1, 0, 2, arc(0, 1, 2)), []int{2}, -2},
		{two, []int{4, 4}, 4}, {two, []int{0, 0}, 0}, {two, []int{3, 3}, 3},
		{ring, []int{5, 5, 0, 0, 0, 0, 0}, 0}, {ring, []int{0, 0, 3, 3, 0, 0, 0}, 0}, {ring, []int{5, 0, 0, 0, 5, 0, 0}, 5}, {ring, []int{5, 0, 3, 3, 5, 2, 0}, 3}, {ring, []int{0, 0, 0, 0, 0, 2, 0}, -2}, {ring, []int{0, 0, 0, 0, 0, 2, 1}, -1}, {ring, []int{5, 3, 2, 2, 2, 0, 2}, 4},
		{much, numbers(1<<30, 0), 1 << 38}, {much, numbers(0, 1<<30), -1 << 38}, {much, numbers(1<<30, 1<<30), 0}, {much, numbers(1<<30, 1<<30-1), 256},
		{net(2, copies(512, arc(0, 1, 1<<30))...), numbers(1<<30, 1<<30), 1 << 39},
		{net(64, arc(0, 62, 3), arc(62, 63, 3), arc(61, 60, 2), arc(60, 61, 2)), []int{3, 3, 1, 1}, 3},
	} {
		if v, e := flow.Value(x.n, x.flow); e != api.OK || v != x.v {
			t.Error(i, v, e)
		}
	}
}

// P13.1: what is no flow, for one reason each. Sums that would be right modulo 2^64 do not help.
func TestNoFlow(t *testing.T) {
	two := net(3, arc(0, 1, 9), arc(1, 2, 4))
	cross := net(4, arc(0, 1, 1<<30), arc(0, 1, 1<<30), arc(1, 2, 1<<30), arc(2, 3, 1<<30))
	for i, x := range []struct {
		n    api.Flownet
		flow []int
	}{
		{net(2), []int{0}}, {net(2, arc(0, 1, 2)), nil}, {net(2, arc(0, 1, 2)), []int{}}, {net(2, arc(0, 1, 2)), []int{0, 0}}, {net(2, arc(0, 1, 2)), []int{3}}, {net(2, arc(0, 1, 2)), []int{-1}}, {net(2, arc(1, 0, 0)), []int{1}},
		{two, []int{4}}, {two, []int{4, 4, 0}}, {two, []int{4, 3}}, {two, []int{3, 4}}, {two, []int{-1, -1}}, {two, []int{5, 5}}, {two, []int{10, 4}}, {two, []int{0, 4}}, {two, []int{4, 0}},
		{two, []int{math.MaxInt, math.MaxInt}}, {two, []int{math.MinInt, math.MinInt}}, {two, []int{1<<32 + 4, 4}}, {two, []int{1 << 32, 1 << 32}},
		{cross, []int{math.MinInt, math.MinInt, 0, 0}}, {cross, []int{-1, 1, 0, 0}}, {cross, []int{2, -1, 1, 1}}, {cross, []int{1, 0, 0, 1}}, {cross, []int{1, 0, 1, 0}}, {cross, []int{0, 0, 1, 1}}, {cross, []int{1, 1, 1, 1}}, {cross, []int{1, 1, 1, 2}},
		{cross, []int{1 << 30, 1 << 30, 1 << 30, 1 << 30}},
		{net(4, arc(1, 2, 5)), []int{1}}, {net(5, arc(1, 2, 5), arc(2, 3, 5)), []int{2, 2}}, {net(64, arc(0, 62, 3), arc(62, 63, 3)), []int{3, 2}},
		{net(64, arc(61, 62, 3), arc(62, 61, 3)), []int{3, 2}}, {between(2, 1, 3, arc(2, 0, 3), arc(0, 1, 3)), []int{3, 2}},
	} {
		if v, e := flow.Value(x.n, x.flow); e != api.ErrFlow || v != 0 {
			t.Error(i, x.flow, v, e)
		}
	}
}

// P13.1: all lists of numbers of a small network.
func TestAllFlows(t *testing.T) {
	n := between(1, 3, 4, arc(1, 0, 2), arc(0, 2, 1), arc(2, 3, 2), arc(1, 2, 1), arc(2, 0, 2), arc(3, 1, 1))
	met := 0
	for code := range 5 * 5 * 5 * 5 * 5 * 5 {
		f := make([]int, 6)
		for i := range f {
			f[i] = code%5 - 1
			code /= 5
		}
		v, e := flow.Value(n, f)
		want, ok := valueOf(n, f)
		if ok {
			met++
		}
		if v != want || ok != (e == api.OK) || !ok && e != api.ErrFlow {
			t.Error(f, v, e)
		}
	}
	if met != 12 {
		t.Error("flows", met)
	}
}

// P13.1
func TestCut(t *testing.T) {
	n := net(4, arc(0, 1, 3), arc(0, 2, 2), arc(1, 2, 5), arc(1, 3, 2), arc(2, 3, 3), arc(2, 1, 11), arc(3, 1, 100), arc(0, 1, 1000))
	for i, x := range []struct {
		n    api.Flownet
		side []bool
		c    int
	}{
		{net(2), []bool{true, false}, 0}, {net(2, arc(1, 0, 2)), []bool{true, false}, 0}, {net(2, arc(0, 1, 2)), []bool{true, false}, 2}, {between(1, 0, 2, arc(0, 1, 2), arc(1, 0, 5)), []bool{false, true}, 5},
		{n, []bool{true, false, false, false}, 1005}, {n, []bool{true, true, false, false}, 9}, {n, []bool{true, false, true, false}, 1017}, {n, []bool{true, true, true, false}, 5},
		{net(2, copies(512, arc(0, 1, 1<<30))...), []bool{true, false}, 1 << 39},
	} {
		if c, e := flow.Cut(x.n, x.side); e != api.OK || c != x.c {
			t.Error(i, c, e)
		}
	}
	for i, side := range [][]bool{
		nil, {}, {true}, {true, false}, {true, true, false}, {true, false, false, false, false}, {true, true, true, false, true},
		{false, false, false, false}, {false, true, true, false}, {true, false, false, true}, {true, true, true, true}, {false, true, true, true}, {false, false, false, true},
	} {
		if c, e := flow.Cut(n, side); e != api.ErrFlow || c != 0 {
			t.Error(i, side, c, e)
		}
	}
}

// P13.1: all sides of networks with any source and sink, and all lists that are none.
func TestAllSides(t *testing.T) {
	for source := range 5 {
		for sink := range 5 {
			n := between(source, sink, 5)
			for from := range 5 {
				for to := range 5 {
					if from != to {
						n.Arcs = append(n.Arcs, arc(from, to, 1<<(5*from+to)))
					}
				}
			}
			for bits := range 32 {
				side := []bool{bits&1 > 0, bits&2 > 0, bits&4 > 0, bits&8 > 0, bits&16 > 0}
				c, e := flow.Cut(n, side)
				switch {
				case source == sink:
					if e != api.ErrArg || c != 0 {
						t.Error(source, sink, side, c, e)
					}
				case !side[source] || side[sink]:
					if e != api.ErrFlow || c != 0 {
						t.Error(source, sink, side, c, e)
					}
				case e != api.OK || c != cutOf(n, side):
					t.Error(source, sink, side, c, e)
				}
			}
		}
	}
}

// R2: no call changes its arguments, or a result of an earlier call.
func TestPure(t *testing.T) {
	n := net(4, arc(0, 1, 3), arc(0, 2, 2), arc(1, 2, 5), arc(1, 3, 2), arc(2, 3, 3))
	arcs := slices.Clone(n.Arcs)
	f, side, e := flow.Max(n)
	if e != api.OK {
		t.Fatal(e)
	}
	g, other := slices.Clone(f), slices.Clone(side)
	for range 3 {
		l, s, _ := flow.Max(n)
		if !slices.Equal(l, g) || !slices.Equal(s, other) {
			t.Error(l, s)
		}
		flow.Value(n, l)
		flow.Cut(n, s)
		if !slices.Equal(l, g) || !slices.Equal(s, other) {
			t.Error(l, s)
		}
		clear(l)
		clear(s)
	}
	if !slices.Equal(f, g) || !slices.Equal(side, other) || !slices.Equal(n.Arcs, arcs) {
		t.Error(f, side, n.Arcs)
	}
}
