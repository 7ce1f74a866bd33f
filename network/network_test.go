package network_test

import (
	"bytes"
	"math"
	"math/rand"
	"slices"
	"strconv"
	"testing"

	"fasti/api"
	"fasti/network"
)

const (
	parties = 24
	most    = 4096    // packets on the way
	maxData = 1 << 20 // bytes of a packet
)

func packet(from, to int, data string) api.Packet {
	return api.Packet{From: from, To: to, Data: []byte(data)}
}

// links returns links with packets whose data are 0, 1 and so on, between changing parties.
func links(n int) (x api.Net) {
	for i := range n {
		x.Queue = append(x.Queue, packet(i%parties, (i+1+i%7)%parties, strconv.Itoa(i)))
	}
	return x
}

// cut returns n, with nothing but these pairs apart.
func cut(n api.Net, l ...[2]int) api.Net {
	n.Apart = l
	return n
}

// pairs returns all pairs of parties, in increasing order.
func pairs() (l [][2]int) {
	for b := range parties {
		for a := range b {
			l = append(l, [2]int{a, b})
		}
	}
	slices.SortFunc(l, func(p, q [2]int) int { return parties*(p[0]-q[0]) + p[1] - q[1] })
	return l
}

// numbers are those that no party has.
func numbers() []int {
	return []int{-1, -2, parties, parties + 1, 1 << 32, 1<<32 + 1, -1 << 32, math.MinInt, math.MaxInt}
}

// copied returns links that share no memory with n.
func copied(n api.Net) api.Net {
	n.Queue, n.Apart = slices.Clone(n.Queue), slices.Clone(n.Apart)
	for i, p := range n.Queue {
		n.Queue[i].Data = bytes.Clone(p.Data)
	}
	return n
}

func samePacket(p, q api.Packet) bool {
	return p.From == q.From && p.To == q.To && bytes.Equal(p.Data, q.Data)
}

func same(a, b api.Net) bool {
	return slices.EqualFunc(a.Queue, b.Queue, samePacket) && slices.Equal(a.Apart, b.Apart)
}

// is checks both results of a function that returns links.
func is(t *testing.T, what string, x api.Net, e api.Errno, want api.Net, err api.Errno) {
	t.Helper()
	if e != err || !same(x, want) {
		t.Errorf("%s: error %d instead of %d; %d of %d packets, apart %v instead of %v", what, e, err,
			len(x.Queue), len(want.Queue), x.Apart, want.Apart)
	}
}

// delivers checks all results of Deliver.
func delivers(t *testing.T, what string, n api.Net, at int, p api.Packet, want api.Net, err api.Errno) {
	t.Helper()
	q, x, e := network.Deliver(n, at)
	is(t, what+": Deliver", x, e, want, err)
	if !samePacket(q, p) {
		t.Errorf("%s: delivered %d to %d %q instead of %d to %d %q", what, q.From, q.To, q.Data, p.From, p.To, p.Data)
	}
}

// without returns links without a packet, in memory of its own.
func without(n api.Net, at int) api.Net {
	var l []api.Packet
	for i, p := range n.Queue {
		if i != at {
			l = append(l, p)
		}
	}
	return api.Net{Queue: l, Apart: n.Apart}
}

// with returns links with further packets, in memory of its own.
func with(n api.Net, l ...api.Packet) api.Net {
	return api.Net{Queue: slices.Concat(n.Queue, l), Apart: n.Apart}
}

// valid returns links of each kind that the term 'valid' admits, up to its limits.
func valid() map[string]api.Net {
	return map[string]api.Net{
		"none":             {},
		"empty":            {Queue: []api.Packet{}, Apart: [][2]int{}},
		"one packet":       links(1),
		"the most packets": links(most),
		"no data":          {Queue: []api.Packet{{From: 1}, {To: 1, Data: []byte{}}}},
		"the most data":    {Queue: []api.Packet{{From: 1, Data: make([]byte, maxData)}}},
		"equal packets":    {Queue: slices.Repeat([]api.Packet{packet(2, 3, "x")}, 9)},
		"the last parties": {Queue: []api.Packet{packet(parties-1, 0, "x"), packet(0, parties-1, "x")}},
		"one pair":         cut(links(3), [2]int{0, 1}),
		"the last pair":    cut(links(3), [2]int{parties - 2, parties - 1}),
		"a distant pair":   cut(links(3), [2]int{0, parties - 1}),
		"a chain":          cut(links(3), [2]int{0, 1}, [2]int{1, 2}, [2]int{2, 3}),
		"a greater first":  cut(links(3), [2]int{0, 9}, [2]int{1, 2}, [2]int{1, 9}, [2]int{5, 6}),
		"all pairs":        cut(links(50), pairs()...),
	}
}

// invalid returns links of each kind that the term 'valid' does not admit.
func invalid() map[string]api.Net {
	ok := packet(1, 2, "x")
	long := api.Packet{From: 1, To: 2, Data: make([]byte, maxData+1)}
	m := map[string]api.Net{
		"too many packets":      links(most + 1),
		"far too many packets":  links(3 * most),
		"a zero packet":         {Queue: []api.Packet{{}}},
		"a packet to itself":    {Queue: []api.Packet{ok, packet(3, 3, "x"), ok}},
		"a last one to itself":  {Queue: append(links(9).Queue, packet(23, 23, "x"))},
		"too much data":         {Queue: []api.Packet{long}},
		"too much data at last": {Queue: []api.Packet{ok, ok, long}},
		"a pair with itself":    cut(links(3), [2]int{0, 1}, [2]int{2, 2}),
		"a zero pair":           cut(links(3), [2]int{}),
		"the greater one first": cut(links(3), [2]int{2, 1}),
		"greater first, later":  cut(links(3), [2]int{0, 1}, [2]int{3, 2}, [2]int{4, 5}),
		"one pair twice":        cut(links(3), [2]int{0, 1}, [2]int{0, 1}),
		"one pair twice, later": cut(links(3), [2]int{0, 1}, [2]int{5, 7}, [2]int{5, 7}, [2]int{6, 7}),
		"a lesser first":        cut(links(3), [2]int{1, 2}, [2]int{0, 3}),
		"a lesser second":       cut(links(3), [2]int{0, 2}, [2]int{0, 1}),
		"a lesser last":         cut(links(3), [2]int{0, 2}, [2]int{1, 2}, [2]int{1, 3}, [2]int{0, 5}),
		"one pair too many":     cut(links(3), append(pairs(), [2]int{22, 23})...),
	}
	for _, a := range numbers() {
		s := strconv.Itoa(a)
		m["a packet from "+s] = api.Net{Queue: []api.Packet{ok, packet(a, 1, "x")}}
		m["a packet to "+s] = api.Net{Queue: []api.Packet{packet(1, a, "x"), ok}}
		m["a packet from and to "+s] = api.Net{Queue: []api.Packet{packet(a, a, "x")}}
		m["a pair of "+s] = cut(links(3), [2]int{a, 1})
		m["a pair with "+s] = cut(links(3), [2]int{1, a})
		m["a pair of twice "+s] = cut(links(3), [2]int{a, a})
		m["a later pair of "+s] = cut(links(3), [2]int{0, 1}, [2]int{min(a, 5), max(a, 5)})
	}
	return m
}

// P6.1
func TestNew(t *testing.T) {
	n := network.New()
	if e := network.Check(n); e != api.OK || len(n.Queue) != 0 || len(n.Apart) != 0 {
		t.Errorf("%d packets, apart %v, %d", len(n.Queue), n.Apart, e)
	}
}

// P6.1
func TestCheck(t *testing.T) {
	for what, n := range valid() {
		if e := network.Check(n); e != api.OK {
			t.Errorf("%s: %d", what, e)
		}
	}
	for what, n := range invalid() {
		if e := network.Check(n); e != api.ErrNet {
			t.Errorf("%s: %d", what, e)
		}
	}
}

// P6.1: exactly these pairs of numbers are those of packets, and of links.
func TestCheckNumbers(t *testing.T) {
	for a := -3; a < parties+3; a++ {
		for b := -3; b < parties+3; b++ {
			inside := a >= 0 && b >= 0 && a <= 23 && b <= 23
			p := api.Net{Queue: []api.Packet{packet(a, b, "x")}}
			if e := network.Check(p); (e == api.OK) != (inside && a != b) {
				t.Errorf("a packet from %d to %d: %d", a, b, e)
			}
			if e := network.Check(cut(api.Net{}, [2]int{a, b})); (e == api.OK) != (inside && a < b) {
				t.Errorf("the pair %d, %d: %d", a, b, e)
			}
		}
	}
}

// P6.1, P6.2, P6.3: invalid links are refused by each function, whatever else is wrong.
func TestInvalid(t *testing.T) {
	for what, n := range invalid() {
		for _, p := range []api.Packet{packet(1, 2, "x"), packet(3, 3, "x")} {
			x, e := network.Send(n, p)
			is(t, what+": Send", x, e, api.Net{}, api.ErrNet)
		}
		for _, at := range []int{0, -1, len(n.Queue) - 1, len(n.Queue), math.MinInt, math.MaxInt} {
			delivers(t, what, n, at, api.Packet{}, api.Net{}, api.ErrNet)
			x, e := network.Lose(n, at)
			is(t, what+": Lose", x, e, api.Net{}, api.ErrNet)
			x, e = network.Repeat(n, at)
			is(t, what+": Repeat", x, e, api.Net{}, api.ErrNet)
		}
		for _, p := range [][2]int{{1, 2}, {2, 2}, {-1, 5}, {5, parties}} {
			x, e := network.Cut(n, p[0], p[1], true)
			is(t, what+": Cut", x, e, api.Net{}, api.ErrNet)
			x, e = network.Cut(n, p[0], p[1], false)
			is(t, what+": mend", x, e, api.Net{}, api.ErrNet)
		}
	}
}

// P6.1: a packet goes to the end, over links that are cut as well.
func TestSend(t *testing.T) {
	l := []api.Packet{packet(0, 1, ""), packet(1, 0, "abc"), packet(23, 0, "x"), packet(0, 23, "\x00\xff"),
		{From: 5, To: 4}, {From: 4, To: 5, Data: []byte{}}, {From: 7, To: 9, Data: bytes.Repeat([]byte{7}, maxData)}}
	for what, n := range valid() {
		for _, p := range l {
			x, e := network.Send(n, p)
			if len(n.Queue) == most {
				is(t, what, x, e, api.Net{}, api.ErrLimit)
			} else {
				is(t, what, x, e, with(n, p), api.OK)
			}
		}
	}
	for _, p := range pairs() {
		n := cut(links(2), pairs()...)
		x, e := network.Send(n, packet(p[1], p[0], "x"))
		is(t, "a link that is cut", x, e, with(n, packet(p[1], p[0], "x")), api.OK)
	}
}

// P6.1: each error of Send, and which of two comes first.
func TestSendInvalid(t *testing.T) {
	l := []api.Packet{{}, packet(3, 3, "x"), packet(23, 23, ""), {From: 1, To: 2, Data: make([]byte, maxData+1)}}
	for _, a := range numbers() {
		l = append(l, packet(a, 1, "x"), packet(1, a, "x"), packet(a, a, "x"))
	}
	for _, n := range []api.Net{{}, links(3), links(most), cut(links(3), pairs()...)} {
		for _, p := range l {
			x, e := network.Send(n, p)
			is(t, "Send", x, e, api.Net{}, api.ErrNet)
		}
	}
	almost := links(most - 1)
	x, e := network.Send(almost, packet(1, 2, "x"))
	is(t, "the last one", x, e, with(almost, packet(1, 2, "x")), api.OK)
	y, e := network.Send(x, packet(1, 2, "x"))
	is(t, "one too many", y, e, api.Net{}, api.ErrLimit)
}

// P6.2: each packet of links of any size; the others keep their order.
func TestMoves(t *testing.T) {
	for n := range 12 {
		for at := range n {
			l := cut(links(n), [2]int{20, 21}, [2]int{20, 22})
			delivers(t, "some", l, at, l.Queue[at], without(l, at), api.OK)
			x, e := network.Lose(l, at)
			is(t, "Lose", x, e, without(l, at), api.OK)
			x, e = network.Repeat(l, at)
			is(t, "Repeat", x, e, with(l, l.Queue[at]), api.OK)
		}
	}
}

// P6.2: as many packets as there can be.
func TestMovesFull(t *testing.T) {
	l := links(most)
	for _, at := range []int{0, 1, 2000, most - 2, most - 1} {
		delivers(t, "all", l, at, l.Queue[at], without(l, at), api.OK)
		x, e := network.Lose(l, at)
		is(t, "Lose", x, e, without(l, at), api.OK)
		x, e = network.Repeat(l, at)
		is(t, "Repeat", x, e, api.Net{}, api.ErrLimit)
		almost, before := without(l, 7), max(at-1, 0)
		x, e = network.Repeat(almost, before)
		is(t, "the last one", x, e, with(almost, almost.Queue[before]), api.OK)
	}
}

// P6.2: what is not the index of a packet, which comes before the limit of Repeat.
func TestMovesInvalid(t *testing.T) {
	for _, n := range []api.Net{{}, links(1), links(5), cut(links(5), pairs()...), links(most)} {
		for _, at := range []int{-1, len(n.Queue), len(n.Queue) + 1, 1 << 32, 1<<32 + 1, -1 << 32, math.MinInt, math.MaxInt} {
			delivers(t, "no index", n, at, api.Packet{}, api.Net{}, api.ErrArg)
			x, e := network.Lose(n, at)
			is(t, "Lose", x, e, api.Net{}, api.ErrArg)
			x, e = network.Repeat(n, at)
			is(t, "Repeat", x, e, api.Net{}, api.ErrArg)
		}
	}
}

// P6.2: the document's example.
func TestRepeatedTwice(t *testing.T) {
	n, _ := network.Send(network.New(), packet(3, 1, "x"))
	n, e := network.Repeat(n, 0)
	is(t, "Repeat", n, e, api.Net{Queue: []api.Packet{packet(3, 1, "x"), packet(3, 1, "x")}}, api.OK)
	delivers(t, "first", n, 0, packet(3, 1, "x"), without(n, 0), api.OK)
	delivers(t, "second", without(n, 0), 0, packet(3, 1, "x"), api.Net{}, api.OK)
}

// P6.2, P6.4: each link that can be cut, in both directions, and no other link with it.
func TestDeliverCut(t *testing.T) {
	for _, p := range pairs() {
		n := cut(api.Net{}, p)
		for _, q := range pairs() {
			n.Queue = []api.Packet{packet(q[0], q[1], "x"), packet(q[1], q[0], "y")}
			for at, r := range n.Queue {
				if p == q {
					r = api.Packet{}
				}
				delivers(t, "one link cut", n, at, r, without(n, at), api.OK)
			}
		}
	}
}

// P6.2: a link that is cut does not keep packets from being lost or repeated.
func TestLoseCut(t *testing.T) {
	n := cut(links(5), pairs()...)
	for at := range n.Queue {
		delivers(t, "all links cut", n, at, api.Packet{}, without(n, at), api.OK)
		x, e := network.Lose(n, at)
		is(t, "Lose", x, e, without(n, at), api.OK)
		x, e = network.Repeat(n, at)
		is(t, "Repeat", x, e, with(n, n.Queue[at]), api.OK)
	}
}

// P6.3: each link is cut and mended by both orders of its parties, once or twice.
func TestCut(t *testing.T) {
	base := cut(links(3), [2]int{0, 2}, [2]int{1, 3}, [2]int{5, 9}, [2]int{22, 23})
	for _, p := range pairs() {
		on, off := slices.Clone(base.Apart), slices.Clone(base.Apart)
		if at, found := slices.BinarySearchFunc(base.Apart, p, func(q, p [2]int) int { return slices.Compare(q[:], p[:]) }); found {
			off = slices.Delete(off, at, at+1)
		} else {
			on = slices.Insert(on, at, p)
		}
		for _, q := range [][2]int{p, {p[1], p[0]}} {
			x, e := network.Cut(base, q[0], q[1], true)
			is(t, "cut", x, e, cut(base, on...), api.OK)
			x, e = network.Cut(x, p[1], p[0], true)
			is(t, "cut twice", x, e, cut(base, on...), api.OK)
			x, e = network.Cut(x, q[0], q[1], false)
			is(t, "mended", x, e, cut(base, off...), api.OK)
			x, e = network.Cut(x, p[0], p[1], false)
			is(t, "mended twice", x, e, cut(base, off...), api.OK)
			x, e = network.Cut(base, q[0], q[1], false)
			is(t, "mended at once", x, e, cut(base, off...), api.OK)
		}
	}
}

// P6.3: all links are cut one by one, and mended, whatever the order.
func TestCutAll(t *testing.T) {
	r := rand.New(rand.NewSource(63))
	for range 20 {
		l, n, e := pairs(), links(4), api.OK
		var apart [][2]int
		for _, i := range r.Perm(len(l)) {
			n, e = network.Cut(n, l[i][1], l[i][0], true)
			apart = append(apart, l[i])
			slices.SortFunc(apart, func(p, q [2]int) int { return parties*(p[0]-q[0]) + p[1] - q[1] })
			is(t, "cut", n, e, cut(links(4), apart...), api.OK)
		}
		is(t, "all cut", n, e, cut(links(4), l...), api.OK)
		for _, i := range r.Perm(len(l)) {
			n, e = network.Cut(n, l[i][0], l[i][1], false)
			apart = slices.DeleteFunc(apart, func(p [2]int) bool { return p == l[i] })
			is(t, "mended", n, e, cut(links(4), apart...), api.OK)
		}
		is(t, "none cut", n, e, links(4), api.OK)
	}
}

// P6.3
func TestCutInvalid(t *testing.T) {
	var l [][2]int
	for a := range parties {
		l = append(l, [2]int{a, a})
	}
	for _, a := range numbers() {
		l = append(l, [2]int{a, 1}, [2]int{1, a}, [2]int{a, a}, [2]int{a, 23}, [2]int{0, a})
	}
	for what, n := range valid() {
		for _, p := range l {
			x, e := network.Cut(n, p[0], p[1], true)
			is(t, what+": cut", x, e, api.Net{}, api.ErrArg)
			x, e = network.Cut(n, p[0], p[1], false)
			is(t, what+": mend", x, e, api.Net{}, api.ErrArg)
		}
	}
}

// P6.1, P6.2, P6.3: the document's table.
func TestExamples(t *testing.T) {
	delivers(t, "nothing", network.New(), 0, api.Packet{}, api.Net{}, api.ErrArg)
	x, e := network.Send(network.New(), packet(3, 3, "x"))
	is(t, "to oneself", x, e, api.Net{}, api.ErrNet)
	x, e = network.Cut(network.New(), 2, 2, true)
	is(t, "from oneself", x, e, api.Net{}, api.ErrArg)
	x, e = network.Cut(network.New(), 3, 1, true)
	is(t, "apart", x, e, cut(api.Net{}, [2]int{1, 3}), api.OK)
}
