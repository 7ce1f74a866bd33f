package network_test

import (
	"math/rand"
	"slices"
	"strconv"
	"testing"

	"fasti/api"
	"fasti/network"
)

// A model of links keeps, for packets that have numbers as data, who sent which number to whom, which numbers
// are on the way, in their order, and a table of the directions that are cut.
type model struct {
	sent  []api.Packet
	queue []int
	apart [parties][parties]bool
}

func (m *model) net() (n api.Net) {
	for _, k := range m.queue {
		n.Queue = append(n.Queue, m.sent[k])
	}
	for a := range parties {
		for b := a + 1; b < parties; b++ {
			if m.apart[a][b] {
				n.Apart = append(n.Apart, [2]int{a, b})
			}
		}
	}
	return n
}

// take removes a packet from those on the way.
func (m *model) take(at int) (p api.Packet) {
	p = m.sent[m.queue[at]]
	m.queue = slices.Delete(slices.Clone(m.queue), at, at+1)
	return p
}

// deliver delivers a packet, and checks that it is what was sent.
func (m *model) deliver(t *testing.T, n api.Net, at int) (x api.Net, e api.Errno) {
	t.Helper()
	p, x, e := network.Deliver(n, at)
	want := m.take(at)
	if m.apart[want.To][want.From] {
		want = api.Packet{}
	}
	if !samePacket(p, want) {
		t.Errorf("delivered %d to %d %q instead of %d to %d %q", p.From, p.To, p.Data, want.From, want.To, want.Data)
	}
	return x, e
}

// step does something by chance to links and to the model of them.
func (m *model) step(t *testing.T, r *rand.Rand, n api.Net) (x api.Net) {
	t.Helper()
	a := r.Intn(6)
	b := (a + 1 + r.Intn(5)) % 6
	var e api.Errno
	switch k := r.Intn(12); {
	case k < 4 || len(m.queue) == 0:
		p := packet(a, b, strconv.Itoa(len(m.sent)))
		x, e = network.Send(n, p)
		m.queue, m.sent = append(m.queue, len(m.sent)), append(m.sent, p)
	case k < 6:
		x, e = m.deliver(t, n, r.Intn(len(m.queue)))
	case k < 7:
		at := r.Intn(len(m.queue))
		x, e = network.Lose(n, at)
		m.take(at)
	case k < 8:
		at := r.Intn(len(m.queue))
		x, e = network.Repeat(n, at)
		m.queue = append(m.queue, m.queue[at])
	default:
		x, e = network.Cut(n, a, b, k < 10)
		m.apart[a][b], m.apart[b][a] = k < 10, k < 10
	}
	is(t, "as the model", x, e, m.net(), api.OK)
	return x
}

// P6.4: links of any past are valid, and deliver what was sent. No call changes links that were returned before.
func TestAsModel(t *testing.T) {
	r := rand.New(rand.NewSource(64))
	for range 100 {
		m, n := &model{}, network.New()
		var past, kept []api.Net
		for range 200 {
			n = m.step(t, r, n)
			past, kept = append(past, n), append(kept, copied(n))
			if e := network.Check(n); e != api.OK {
				t.Fatal(e)
			}
		}
		if !slices.EqualFunc(past, kept, same) {
			t.Fatal("links were changed after they had been returned")
		}
	}
}

// P6.4: without losses, repetitions and cuts, each packet is delivered once, in each order.
func TestEachOnce(t *testing.T) {
	for many := range 7 {
		n := network.New()
		for _, p := range links(many).Queue {
			x, e := network.Send(n, p)
			is(t, "Send", x, e, with(n, p), api.OK)
			n = x
		}
		if orders := deliverAll(t, n, make([]bool, many)); orders != factorial(many) {
			t.Errorf("%d packets: %d orders", many, orders)
		}
	}
}

func factorial(n int) int {
	if n == 0 {
		return 1
	}
	return n * factorial(n-1)
}

// deliverAll delivers all packets in each order, and returns how many orders there are.
func deliverAll(t *testing.T, n api.Net, done []bool) (orders int) {
	if len(n.Queue) == 0 {
		if slices.Contains(done, false) {
			t.Errorf("a packet was not delivered: %v", done)
		}
		return 1
	}
	for at := range n.Queue {
		p, x, e := network.Deliver(n, at)
		k, err := strconv.Atoi(string(p.Data))
		if e != api.OK || err != nil || done[k] || !samePacket(p, links(len(done)).Queue[k]) {
			t.Fatalf("%d to %d %q: %d", p.From, p.To, p.Data, e)
		}
		done = slices.Clone(done)
		done[k] = true
		orders += deliverAll(t, x, done)
		done[k] = false
	}
	return orders
}

// P6.4: a link that was cut and mended delivers in both directions again, also what was sent while it was cut.
func TestMended(t *testing.T) {
	n, e := network.Cut(network.New(), 4, 2, true)
	is(t, "cut", n, e, cut(api.Net{}, [2]int{2, 4}), api.OK)
	l := []api.Packet{packet(2, 4, "a"), packet(4, 2, "b"), packet(4, 2, "c")}
	for _, p := range l {
		n, _ = network.Send(n, p)
	}
	delivers(t, "while it is cut", n, 2, api.Packet{}, without(n, 2), api.OK)
	n, e = network.Cut(without(n, 2), 2, 4, false)
	is(t, "mended", n, e, api.Net{Queue: l[:2]}, api.OK)
	delivers(t, "one way", n, 0, l[0], without(n, 0), api.OK)
	delivers(t, "the other way", n, 1, l[1], without(n, 1), api.OK)
}

// R2: the arguments stay as they are, and so does the memory behind their ends; results that follow
// the same links do not disturb each other.
func TestArguments(t *testing.T) {
	spare := cut(links(9), pairs()...)
	n := api.Net{Queue: spare.Queue[:4], Apart: spare.Apart[:30]}
	before, beyond := copied(n), copied(spare)
	type result struct{ got, want api.Net }
	var l []result
	keep := func(x api.Net, e api.Errno, want api.Net) {
		is(t, "at first", x, e, want, api.OK)
		l = append(l, result{x, copied(want)})
	}
	for i := range 4 {
		p := packet(i, 9, "new")
		x, e := network.Send(n, p)
		keep(x, e, with(n, p))
		_, x, e = network.Deliver(n, i)
		keep(x, e, without(n, i))
		x, e = network.Lose(n, i)
		keep(x, e, without(n, i))
		x, e = network.Repeat(n, i)
		keep(x, e, with(n, n.Queue[i]))
		x, e = network.Cut(n, 20, 21+i%3, true)
		keep(x, e, cut(n, append(slices.Clone(n.Apart), [2]int{20, 21 + i%3})...))
		x, e = network.Cut(n, 0, 1+i, false)
		keep(x, e, cut(n, slices.Delete(slices.Clone(n.Apart), i, i+1)...))
	}
	for _, x := range l {
		is(t, "at last", x.got, api.OK, x.want, api.OK)
		y, e := network.Send(x.got, packet(7, 8, "later"))
		is(t, "later", y, e, with(x.want, packet(7, 8, "later")), api.OK)
	}
	if !same(n, before) || !same(spare, beyond) {
		t.Error("an argument was changed")
	}
}
