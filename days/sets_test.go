package days_test

import (
	"math/rand"
	"slices"
	"testing"

	"fasti/api"
	"fasti/days"
)

// An operation is a function of two sets, with what it does to a day that is, or is not, in each of them.
type operation struct {
	name string
	do   func(a, b []api.Span) ([]api.Span, api.Errno)
	in   func(inA, inB bool) bool
}

func operations() []operation {
	return []operation{
		{"union", days.Union, func(inA, inB bool) bool { return inA || inB }},
		{"meet", days.Meet, func(inA, inB bool) bool { return inA && inB }},
		{"without", days.Without, func(inA, inB bool) bool { return inA && !inB }},
	}
}

// made reports whether an operation returns a list.
func made(o operation, a, b, want []api.Span) bool {
	l, e := o.do(a, b)
	return e == api.OK && slices.Equal(l, want) && days.Check(l) == api.OK
}

// failed reports whether an operation returns an error, and no list.
func failed(o operation, a, b []api.Span, want api.Errno) bool {
	l, e := o.do(a, b)
	return e == want && len(l) == 0
}

// P12.3
func TestOperations(t *testing.T) {
	all := spans(0, 73048)
	for i, x := range []struct{ a, b, union, meet, without []api.Span }{
		{nil, nil, nil, nil, nil},
		{nil, []api.Span{}, nil, nil, nil},
		{[]api.Span{}, nil, nil, nil, nil},
		{spans(1, 3), nil, spans(1, 3), nil, spans(1, 3)},
		{nil, spans(1, 3), spans(1, 3), nil, nil},
		{spans(1, 3), []api.Span{}, spans(1, 3), nil, spans(1, 3)},
		{spans(1, 3), spans(4, 6), spans(1, 6), nil, spans(1, 3)},
		{spans(4, 6), spans(1, 3), spans(1, 6), nil, spans(4, 6)},
		{spans(1, 3), spans(5, 6), spans(1, 3, 5, 6), nil, spans(1, 3)},
		{spans(1, 3), spans(3, 6), spans(1, 6), spans(3, 3), spans(1, 2)},
		{spans(1, 3), spans(1, 3), spans(1, 3), spans(1, 3), nil},
		{spans(1, 9), spans(3, 5), spans(1, 9), spans(3, 5), spans(1, 2, 6, 9)},
		{spans(3, 5), spans(1, 9), spans(1, 9), spans(3, 5), nil},
		{spans(1, 9), spans(1, 5), spans(1, 9), spans(1, 5), spans(6, 9)},
		{spans(1, 9), spans(5, 9), spans(1, 9), spans(5, 9), spans(1, 4)},
		{spans(1, 9), spans(5, 5), spans(1, 9), spans(5, 5), spans(1, 4, 6, 9)},
		{spans(1, 2, 4, 5, 7, 8), spans(3, 3, 6, 6), spans(1, 8), nil, spans(1, 2, 4, 5, 7, 8)},
		{spans(1, 2, 4, 5, 7, 8), spans(2, 7), spans(1, 8), spans(2, 2, 4, 5, 7, 7), spans(1, 1, 8, 8)},
		{spans(0, 4, 8, 8), spans(4, 8), spans(0, 8), spans(4, 4, 8, 8), spans(0, 3)},
		{all, nil, all, nil, all},
		{all, all, all, all, nil},
		{all, spans(0, 0), all, spans(0, 0), spans(1, 73048)},
		{all, spans(73048, 73048), all, spans(73048, 73048), spans(0, 73047)},
		{all, spans(0, 0, 73048, 73048), all, spans(0, 0, 73048, 73048), spans(1, 73047)},
		{spans(0, 73047), spans(73048, 73048), all, nil, spans(0, 73047)},
		{spans(73048, 73048), spans(0, 0), spans(0, 0, 73048, 73048), nil, spans(73048, 73048)},
	} {
		for k, want := range [][]api.Span{x.union, x.meet, x.without} {
			if o := operations()[k]; !made(o, x.a, x.b, want) {
				l, e := o.do(x.a, x.b)
				t.Error(i, o.name, l, e)
			}
		}
	}
}

// P12.3, P12.5: all pairs of sets of some days, at the first days, at the last ones, and shifted against each other.
func TestOperationsOfAllSmall(t *testing.T) {
	const bits = 7
	for _, from := range [][2]int{{0, 0}, {api.MaxDay - bits + 1, api.MaxDay - bits + 1}, {100, 104}, {104, 100}} {
		for a := range 1 << bits {
			for b := range 1 << bits {
				l, m := subset(a, from[0]), subset(b, from[1])
				least := min(from[0], from[1])
				x, y := a<<(from[0]-least), b<<(from[1]-least)
				for i, want := range []int{x | y, x & y, x &^ y} {
					if o := operations()[i]; !made(o, l, m, subset(want, least)) {
						t.Fatal(o.name, l, m)
					}
				}
			}
		}
	}
}

// P12.5: each day, of sets by chance. The lists with up to 256 spans may have more than 256 spans together.
func TestOperationsOfAny(t *testing.T) {
	r := rand.New(rand.NewSource(4))
	tooMany := 0
	for range 300 {
		a, b := some(r, r.Intn(257)), some(r, r.Intn(257))
		inA, inB := setOf(a), setOf(b)
		for _, o := range operations() {
			var want []int
			for n := range api.MaxDay + 1 {
				if o.in(inA[n], inB[n]) {
					want = append(want, n)
				}
			}
			switch l := list(want); {
			case len(l) > 256:
				tooMany++
				if !failed(o, a, b, api.ErrLimit) {
					t.Error(o.name, a, b)
				}
			case !made(o, a, b, l):
				t.Error(o.name, a, b)
			}
		}
	}
	if tooMany < 20 {
		t.Error("few results beyond the limit", tooMany)
	}
}

// P12.3: results with 256 spans, and with more.
func TestOperationsLimit(t *testing.T) {
	union, meet, without := operations()[0], operations()[1], operations()[2]
	even, odd := stripes(256, 0, 1, 4), stripes(256, 2, 1, 4)
	long := spans(0, 2000)
	if !made(union, even, even, even) || !made(union, even[:128], odd[:128], stripes(256, 0, 1, 2)) || !made(union, even, stripes(256, 1, 3, 4), spans(0, 1023)) {
		t.Error("unions of 256 spans or fewer")
	}
	if !failed(union, even, odd, api.ErrLimit) || !failed(union, even, odd[:1], api.ErrLimit) || !failed(union, odd[255:], even, api.ErrLimit) || !failed(union, even[:129], odd[:128], api.ErrLimit) {
		t.Error("unions of more")
	}
	// each span begins at the end of one of the other list, and ends at the beginning of the next one
	a, b := stripes(256, 0, 3, 4), stripes(256, 2, 3, 4)
	if !made(meet, a, b[:128], stripes(256, 2, 1, 2)) || !failed(meet, a, b[:129], api.ErrLimit) || !failed(meet, b, a, api.ErrLimit) || !failed(meet, a[:129], b[:129], api.ErrLimit) || !made(meet, a[:129], b[:128], stripes(256, 2, 1, 2)) {
		t.Error("meets")
	}
	if l, e := days.Without(long, even); e != api.OK || len(l) != 256 || l[0] != span(1, 3) || l[255] != span(1021, 2000) {
		t.Error("a difference of 256 spans", len(l), e)
	}
	if !failed(without, long, odd, api.ErrLimit) || !made(without, long, odd[:255], append(append(spans(0, 1), stripes(254, 3, 3, 4)...), span(1019, 2000))) || !failed(without, stripes(129, 0, 3, 4), stripes(129, 1, 1, 4), api.ErrLimit) {
		t.Error("differences")
	}
	if !made(without, stripes(128, 0, 3, 4), stripes(256, 1, 1, 4), stripes(256, 0, 1, 2)) || !made(without, even, odd, even) || !made(without, even, even, nil) {
		t.Error("differences of 256 spans, or without any")
	}
}

// P12.3: the error of the first list comes before that of the second one, and both before the limit of the result.
func TestOperationsErrors(t *testing.T) {
	many, odd := stripes(256, 0, 1, 4), stripes(256, 2, 1, 4)
	good := [][]api.Span{nil, {}, spans(1, 3), spans(0, 73048), many, odd}
	long := [][]api.Span{make([]api.Span, 257), stripes(257, 0, 1, 2), stripes(1000, -5, 2, 1)}
	for _, o := range operations() {
		for _, bad := range wrong() {
			for _, l := range good {
				if !failed(o, bad, l, api.ErrDate) || !failed(o, l, bad, api.ErrDate) {
					t.Error(o.name, bad, l)
				}
			}
			for _, l := range long {
				if !failed(o, bad, l, api.ErrDate) || !failed(o, l, bad, api.ErrLimit) {
					t.Error(o.name, "order of errors", bad)
				}
			}
			if !failed(o, bad, bad, api.ErrDate) {
				t.Error(o.name, bad)
			}
		}
		for _, l := range long {
			for _, m := range good {
				if !failed(o, l, m, api.ErrLimit) || !failed(o, m, l, api.ErrLimit) {
					t.Error(o.name, "too many spans")
				}
			}
		}
	}
}

// P12.6: the numbers of days of the union and of the meet add up to those of both sets, and those of the meet and of the difference to that of the first one.
func TestCountsAddUp(t *testing.T) {
	r := rand.New(rand.NewSource(5))
	count := func(l []api.Span, e api.Errno) int {
		n, f := days.Count(l)
		if e != api.OK || f != api.OK {
			t.Error(l, e, f)
		}
		return n
	}
	for range 3000 {
		a, b := some(r, r.Intn(128)), some(r, r.Intn(128))
		first, second := count(a, api.OK), count(b, api.OK)
		union, meet, without := count(days.Union(a, b)), count(days.Meet(a, b)), count(days.Without(a, b))
		if union+meet != first+second || meet+without != first {
			t.Error(a, b, union, meet, without)
		}
	}
}

// R2, R3: no function changes what it is given, or what lies behind it, or a result that it has returned; empty lists are alike.
func TestPure(t *testing.T) {
	r := rand.New(rand.NewSource(6))
	for range 300 {
		a, b := some(r, r.Intn(100)), some(r, r.Intn(100))
		i, k := r.Intn(len(a)+1), r.Intn(len(b)+1)
		sameA, sameB := slices.Clone(a), slices.Clone(b)
		for _, o := range operations() {
			l, e := o.do(a[:i], b[:k])
			kept := slices.Clone(l)
			for _, p := range operations() {
				p.do(l, b[:k])
				p.do(a[:i], l)
				p.do(b[:k], a[:i])
			}
			days.Count(l)
			days.Nth(l, 0)
			if again, f := o.do(a[:i], b[:k]); e != api.OK || f != api.OK || !slices.Equal(l, kept) || !slices.Equal(again, kept) {
				t.Error(o.name, "equal calls", e, f)
			}
		}
		if !slices.Equal(a, sameA) || !slices.Equal(b, sameB) {
			t.Error("arguments were changed")
		}
	}
	for _, l := range [][]api.Span{nil, {}, make([]api.Span, 0, 5)} {
		if n, e := days.Count(l); n != 0 || e != api.OK || !none(l, 0) {
			t.Error("an empty list", n, e)
		}
	}
}
