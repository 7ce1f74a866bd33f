package days_test

import (
	"math"
	"math/rand"
	"slices"
	"testing"

	"fasti/api"
	"fasti/days"
)

// A set has true for each of its days: the reference for lists of spans.
type set [api.MaxDay + 1]bool

func span(from, to int) api.Span { return api.Span{From: from, To: to} }

// spans returns a list of the spans from, to, from, to ..
func spans(n ...int) (l []api.Span) {
	for i := 0; i < len(n); i += 2 {
		l = append(l, span(n[i], n[i+1]))
	}
	return l
}

// setOf returns the days of a list.
func setOf(l []api.Span) *set {
	var s set
	for _, x := range l {
		for n := x.From; n <= x.To; n++ {
			s[n] = true
		}
	}
	return &s
}

// members returns the days of a set in increasing order.
func members(s *set) (l []int) {
	for n, ok := range s {
		if ok {
			l = append(l, n)
		}
	}
	return l
}

// list returns the canonical list of days in increasing order.
func list(members []int) (l []api.Span) {
	for i, n := range members {
		if i > 0 && members[i-1] == n-1 {
			l[len(l)-1].To = n
		} else {
			l = append(l, span(n, n))
		}
	}
	return l
}

// stripes returns n spans of some days, the first one from a day on, at equal distances.
func stripes(n, from, size, distance int) (l []api.Span) {
	for i := range n {
		l = append(l, span(from+i*distance, from+i*distance+size-1))
	}
	return l
}

// some returns a canonical list by chance of at most n spans, with short or long spans and gaps.
func some(r *rand.Rand, n int) (l []api.Span) {
	long := 1 + r.Intn(300)
	for from := r.Intn(long); len(l) < n; {
		to := from + r.Intn(long)
		if to > api.MaxDay {
			break
		}
		l = append(l, span(from, to))
		from = to + 2 + r.Intn(long)
	}
	if k := len(l); k > 0 && r.Intn(4) == 0 {
		l[k-1].To = api.MaxDay
	}
	return l
}

// subset returns the canonical list of the days from a day on whose bits are set.
func subset(bits, from int) []api.Span {
	var l []int
	for n := range 16 {
		if bits>>n&1 == 1 {
			l = append(l, from+n)
		}
	}
	return list(l)
}

// wrong are lists that are not canonical, each for one reason.
func wrong() [][]api.Span {
	return [][]api.Span{
		spans(-1, -1), spans(-1, 2), spans(math.MinInt, 2), spans(math.MinInt, math.MaxInt), spans(2, 1), spans(9, 0), spans(5, -5), spans(math.MaxInt, math.MinInt),
		spans(0, 73049), spans(73049, 73049), spans(0, math.MaxInt), spans(math.MaxInt, math.MaxInt), spans(math.MinInt, math.MinInt), spans(1<<32, 1<<32+5),
		spans(1, 3, 4, 6), spans(1, 3, 3, 6), spans(1, 3, 2, 6), spans(1, 6, 2, 3), spans(1, 3, 1, 3), spans(5, 6, 1, 2), spans(0, 0, 1, 1), spans(73047, 73047, 73048, 73048),
		spans(1, 3, 5, 4), spans(1, 3, 5, 73049), spans(1, 3, -5, 6), spans(1, 73048, 0, 2), spans(1, 73048, 73050, 73050), spans(1, math.MaxInt, 3, 4), spans(1, math.MaxInt, math.MinInt+1, 4),
		spans(1, math.MaxInt-1, math.MinInt, math.MinInt), spans(1, math.MaxInt, 1, 4), spans(1, 2, 4, 5, 6, 7), spans(1, 2, 4, 5, 8, 7), spans(10, 11, 4, 5, 20, 21), spans(10, 9, 20, 21),
		append(stripes(255, 0, 1, 2), span(509, 509)), append(stripes(255, 0, 1, 2), span(510, 509)), append(spans(1, 0), stripes(255, 5, 1, 2)...),
	}
}

// P12.2
func TestCheck(t *testing.T) {
	for i, l := range [][]api.Span{
		nil, {}, spans(0, 0), spans(0, 73048), spans(73048, 73048), spans(0, 0, 2, 2), spans(0, 0, 73048, 73048), spans(0, 73046, 73048, 73048), spans(1, 3, 5, 6), spans(1, 3, 5, 5, 7, 7), spans(1, 2, 6, 9),
		stripes(256, 0, 1, 2), stripes(256, 72538, 1, 2), stripes(256, 3, 280, 285),
	} {
		if e := days.Check(l); e != api.OK {
			t.Error(i, e)
		}
	}
	for _, l := range wrong() {
		if e := days.Check(l); e != api.ErrDate {
			t.Error(l, e)
		}
	}
}

// P12.2: the limit comes before everything else.
func TestCheckLimit(t *testing.T) {
	for _, n := range []int{257, 258, 300, 1000, 40000} {
		for _, l := range [][]api.Span{make([]api.Span, n), stripes(n, 0, 1, 2), stripes(n, -1, 1, 2), stripes(n, 0, 1, 1)} {
			if e := days.Check(l); e != api.ErrLimit {
				t.Error(n, e)
			}
			if c, e := days.Count(l); e != api.ErrLimit || c != 0 {
				t.Error(n, c, e)
			}
			if d, ok, e := days.Nth(l, -1); e != api.ErrLimit || d != 0 || ok {
				t.Error(n, d, ok, e)
			}
		}
	}
	if days.Check(make([]api.Span, 256)) != api.ErrDate || days.Check(stripes(256, 0, 1, 1)) != api.ErrDate {
		t.Error("as many spans as there can be")
	}
}

// P12.2: all lists of up to three spans with a few numbers around the first day, and around the last one: those are canonical that are made of their days.
func TestCheckAll(t *testing.T) {
	for _, from := range []int{-1, api.MaxDay - 4} {
		var all []api.Span
		for i := range 36 {
			all = append(all, span(from+i/6, from+i%6))
		}
		valid := 0
		examine := func(l ...api.Span) {
			inside := !slices.ContainsFunc(l, func(s api.Span) bool { return min(s.From, s.To) < 0 || max(s.From, s.To) > api.MaxDay })
			if want := inside && slices.Equal(l, list(union(l))); want {
				valid++
				if e := days.Check(l); e != api.OK {
					t.Error(l, e)
				}
			} else if e := days.Check(l); e != api.ErrDate {
				t.Error(l, e)
			}
		}
		examine()
		for _, a := range all {
			examine(a)
			for _, b := range all {
				examine(a, b)
				for _, c := range all {
					examine(a, b, c)
				}
			}
		}
		if valid != 32 {
			t.Error("a list for each set of 5 days", from, valid)
		}
	}
}

// union returns the days of a short list in increasing order, each once.
func union(l []api.Span) (all []int) {
	for _, s := range l {
		for n := s.From; n <= s.To; n++ {
			all = append(all, n)
		}
	}
	slices.Sort(all)
	return slices.Compact(all)
}

// nth reports whether Nth returns a day.
func nth(l []api.Span, k, want int) bool {
	d, ok, e := days.Nth(l, k)
	return d == want && ok && e == api.OK
}

// none reports whether Nth returns that there is no day.
func none(l []api.Span, k int) bool {
	d, ok, e := days.Nth(l, k)
	return d == 0 && !ok && e == api.OK
}

// P12.2, P12.6: numbers of days, and each of them, of all sets of a few days and of sets by chance.
func TestCountAndNth(t *testing.T) {
	examine := func(l []api.Span, want []int) {
		if n, e := days.Count(l); n != len(want) || e != api.OK {
			t.Error(l, n, e)
		}
		for k, d := range want {
			if !nth(l, k, d) {
				t.Error(l, k, d)
			}
		}
		for _, k := range []int{len(want), len(want) + 1, len(want) + 1000, api.MaxDay + 1, 1 << 32, math.MaxInt} {
			if !none(l, k) {
				t.Error(l, k)
			}
		}
	}
	for bits := range 1 << 10 {
		for _, from := range []int{0, 1, 500, api.MaxDay - 9} {
			l := subset(bits, from)
			examine(l, union(l))
		}
	}
	r := rand.New(rand.NewSource(2))
	for n := range 257 {
		l := some(r, n)
		examine(l, members(setOf(l)))
	}
	examine(spans(0, 73048), members(setOf(spans(0, 73048))))
	examine(stripes(256, 0, 284, 285), members(setOf(stripes(256, 0, 284, 285))))
	examine(spans(1, 2, 6, 9), []int{1, 2, 6, 7, 8, 9})
}

// P12.2: the errors of lists come before that of k, and that of k before all days.
func TestCountAndNthErrors(t *testing.T) {
	ks := []int{math.MinInt, math.MinInt + 1, -73049, -2, -1}
	for _, l := range [][]api.Span{nil, {}, spans(0, 0), spans(1, 2, 6, 9), spans(0, 73048), stripes(256, 0, 1, 2)} {
		for _, k := range ks {
			if d, ok, e := days.Nth(l, k); e != api.ErrArg || d != 0 || ok {
				t.Error(l, k, d, ok, e)
			}
		}
	}
	for _, l := range wrong() {
		if n, e := days.Count(l); e != api.ErrDate || n != 0 {
			t.Error(l, n, e)
		}
		for _, k := range append(ks, 0, 1, 2, math.MaxInt) {
			if d, ok, e := days.Nth(l, k); e != api.ErrDate || d != 0 || ok {
				t.Error(l, k, d, ok, e)
			}
		}
	}
}

// P12.6: Nth returns the days of a list in increasing order, each once; as many as Count says.
func TestNthInOrder(t *testing.T) {
	r := rand.New(rand.NewSource(3))
	for range 300 {
		l := some(r, r.Intn(257))
		n, e := days.Count(l)
		last := -1
		for k := range n {
			d, ok, f := days.Nth(l, k)
			if e != api.OK || f != api.OK || !ok || d <= last {
				t.Fatal(l, k, d, ok, e, f)
			}
			last = d
		}
		if !none(l, n) {
			t.Error(l, n)
		}
	}
}
