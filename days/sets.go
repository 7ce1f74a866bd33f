package days

import (
	"iter"

	"fasti/api"
)

// never is greater than all boundaries of sets.
const never = api.MaxDay + 2

func size(s api.Span) int { return s.To - s.From + 1 }

// canonical reports whether spans are spans of days, in order, with other days between them.
func canonical(l []api.Span) bool {
	least := 0 // where the next span may begin
	for _, s := range l {
		if s.From < least || s.From > s.To || s.To > api.MaxDay {
			return false
		}
		least = s.To + 2
	}
	return true
}

// boundary returns the day at which the span i/2 begins, if i is even, or the day after it, if i is odd. So a day is in the set if an odd number of boundaries are not after it.
func boundary(l []api.Span, i int) int {
	switch {
	case i == 2*len(l):
		return never
	case i%2 == 0:
		return l[i/2].From
	}
	return l[i/2].To + 1
}

// A place says whether a day is in one set, and whether it is in another one.
type place struct{ inA, inB bool }

// boundaries yields the boundaries of two sets in increasing order, each once, with the place that the days have from there on.
func boundaries(a, b []api.Span) iter.Seq2[int, place] {
	return func(yield func(day int, p place) bool) {
		for i, k := 0, 0; i < 2*len(a) || k < 2*len(b); {
			ofA, ofB := boundary(a, i), boundary(b, k)
			day := min(ofA, ofB)
			if ofA == day {
				i++
			}
			if ofB == day {
				k++
			}
			if !yield(day, place{i%2 == 1, k%2 == 1}) {
				return
			}
		}
	}
}

// combine returns the days that are wanted, by whether they are in a and in b.
func combine(a, b []api.Span, wanted func(inA, inB bool) bool) (l []api.Span, e api.Errno) {
	if e = Check(a); e != api.OK {
		return nil, e
	}
	if e = Check(b); e != api.OK {
		return nil, e
	}
	open := false
	turn := func(day int) {
		if open = !open; open {
			l = append(l, api.Span{From: day})
		} else {
			l[len(l)-1].To = day - 1
		}
	}
	for day, p := range boundaries(a, b) {
		if wanted(p.inA, p.inB) != open {
			turn(day)
		}
	}
	if len(l) > api.MaxSpans {
		return nil, api.ErrLimit
	}
	return l, api.OK
}
