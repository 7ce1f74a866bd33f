package days_test

import (
	"math"
	"math/rand"
	"testing"
	"time"

	"fasti/api"
	"fasti/days"
)

func day(year, month, day int) api.Date { return api.Date{Year: year, Month: month, Day: day} }

// reference returns the date and the weekday of a day by Go's library.
func reference(n int) (d api.Date, week int) {
	t := time.Date(2000, time.January, 1+n, 0, 0, 0, 0, time.UTC)
	return day(t.Year(), int(t.Month()), t.Day()), (int(t.Weekday()) + 6) % 7
}

// known returns the days of all dates by Go's library.
func known() map[api.Date]int {
	all := map[api.Date]int{}
	for n := range api.MaxDay + 1 {
		d, _ := reference(n)
		all[d] = n
	}
	return all
}

// P12.1: the examples, and days at which years, months and weeks begin or end.
func TestSomeDates(t *testing.T) {
	for _, x := range []struct {
		n    int
		d    api.Date
		week int
	}{
		{0, day(2000, 1, 1), 5}, {1, day(2000, 1, 2), 6}, {2, day(2000, 1, 3), 0}, {58, day(2000, 2, 28), 0}, {59, day(2000, 2, 29), 1}, {60, day(2000, 3, 1), 2},
		{365, day(2000, 12, 31), 6}, {366, day(2001, 1, 1), 0}, {366 + 58, day(2001, 2, 28), 2}, {366 + 59, day(2001, 3, 1), 3},
		{9821, day(2026, 11, 21), 5}, {36524, day(2099, 12, 31), 3}, {36583, day(2100, 2, 28), 6}, {36584, day(2100, 3, 1), 0},
		{38044, day(2104, 2, 29), 4}, {72743, day(2199, 3, 1), 4}, {73047, day(2199, 12, 30), 0}, {73048, day(2199, 12, 31), 1},
	} {
		d, e := days.Of(x.n)
		n, f := days.Number(x.d)
		w, g := days.Weekday(x.n)
		if e != api.OK || f != api.OK || g != api.OK || d != x.d || n != x.n || w != x.week {
			t.Error(x, d, n, w, e, f, g)
		}
	}
}

// P12.1, P12.4: all days, against Go's library. Of and Number are inverse to each other.
func TestAllDays(t *testing.T) {
	for n := range api.MaxDay + 1 {
		want, week := reference(n)
		d, e := days.Of(n)
		w, f := days.Weekday(n)
		back, g := days.Number(d)
		if e != api.OK || f != api.OK || g != api.OK || d != want || w != week || back != n {
			t.Error(n, d, w, back, e, f, g)
		}
	}
}

// P12.1: numbers that are no days.
func TestNoDays(t *testing.T) {
	l := []int{math.MinInt, math.MinInt + 1, math.MaxInt, math.MaxInt - 1, math.MaxInt - 5}
	for _, n := range []int{1 << 16, 1 << 31, 1 << 32, 1 << 33, 1 << 62} {
		l = append(l, n+api.MaxDay+1, -n, -n+1)
	}
	for n := range 1000 {
		l = append(l, -1-n, api.MaxDay+1+n)
	}
	l = append(l, 1<<32, 1<<32+7, -1<<32, -1<<32+7)
	for _, n := range l {
		if d, e := days.Of(n); e != api.ErrArg || d != (api.Date{}) {
			t.Error(n, d, e)
		}
		if w, e := days.Weekday(n); e != api.ErrArg || w != 0 {
			t.Error(n, w, e)
		}
	}
}

// P12.1, P12.4: all dates, and what is next to a date without being one, against a table of the dates of Go's library.
func TestAllDates(t *testing.T) {
	all := known()
	met := 0
	for year := 1990; year <= 2210; year++ {
		for month := -1; month <= 14; month++ {
			for of := -1; of <= 33; of++ {
				d := day(year, month, of)
				n, e := days.Number(d)
				want, ok := all[d]
				if !ok {
					if e != api.ErrDate || n != 0 {
						t.Error("no date", d, n, e)
					}
					continue
				}
				met++
				back, f := days.Of(n)
				if e != api.OK || f != api.OK || n != want || back != d {
					t.Error(d, n, want, back, e, f)
				}
			}
		}
	}
	if met != api.MaxDay+1 {
		t.Error("dates", met)
	}
}

// P12.1: each part of a date may be any integer.
func TestNoDates(t *testing.T) {
	for _, d := range []api.Date{
		{}, day(2000, 0, 0), day(0, 1, 1), day(26, 1, 1), day(1900, 2, 28), day(1999, 12, 31), day(2200, 1, 1), day(2400, 2, 29), day(2100, 2, 29), day(2001, 2, 29), day(2000, 2, 30),
		day(2050, 4, 31), day(2050, 6, 31), day(2050, 9, 31), day(2050, 11, 31), day(2050, 12, 32), day(2050, 13, 1), day(2050, 0, 31), day(2050, 1, 0), day(2050, -1, 1), day(-2050, 1, 1), day(1, 1, 2050),
	} {
		if n, e := days.Number(d); e != api.ErrDate || n != 0 {
			t.Error(d, n, e)
		}
	}
	for _, n := range []int{math.MinInt, math.MinInt + 1, math.MinInt + 2000, math.MaxInt, math.MaxInt - 1, 1 << 32, 1<<32 + 2, 1<<32 + 2000, -1 << 32, 1<<62 + 2000, -1, 256 + 2} {
		for _, d := range []api.Date{day(n, 2, 2), day(2000, n, 2), day(2000, 2, n), day(n, n, 2), day(n, 2, n), day(2000, n, n), day(n, n, n)} {
			if x, e := days.Number(d); e != api.ErrDate || x != 0 {
				t.Error(d, x, e)
			}
		}
	}
}

// follows reports whether b is the date after a, by the words of the promise.
func follows(a, b api.Date) bool {
	switch {
	case b == day(a.Year, a.Month, a.Day+1):
		return true
	case a.Month < 12:
		return b == day(a.Year, a.Month+1, 1)
	}
	return b == day(a.Year+1, 1, 1)
}

// P12.4: the date of the next day is that of the same month with the next Day, or the first one of the next month, which is so if the month has no next Day; its weekday is the next one.
func TestNextDay(t *testing.T) {
	for n := range api.MaxDay {
		a, e := days.Of(n)
		b, f := days.Of(n + 1)
		v, g := days.Weekday(n)
		w, h := days.Weekday(n + 1)
		if e != api.OK || f != api.OK || g != api.OK || h != api.OK || !follows(a, b) || w != (v+1)%7 {
			t.Error(n, a, b, v, w, e, f, g, h)
		}
		if _, e := days.Number(day(a.Year, a.Month, a.Day+1)); (e == api.OK) != (b.Day == a.Day+1) {
			t.Error(n, a, b, e)
		}
	}
}

func before(a, b api.Date) bool {
	switch {
	case a.Year != b.Year:
		return a.Year < b.Year
	case a.Month != b.Month:
		return a.Month < b.Month
	}
	return a.Day < b.Day
}

// P12.4: the order of days is that of dates, of pairs by chance and of neighbours.
func TestOrderOfDates(t *testing.T) {
	r := rand.New(rand.NewSource(1))
	examine := func(m, n int) {
		a, e := days.Of(m)
		b, f := days.Of(n)
		if e != api.OK || f != api.OK || before(a, b) != (m < n) || before(b, a) != (n < m) || (a == b) != (m == n) {
			t.Error(m, n, a, b, e, f)
		}
	}
	for range 100000 {
		examine(r.Intn(api.MaxDay+1), r.Intn(api.MaxDay+1))
	}
	for n := range api.MaxDay {
		examine(n, n+1)
		examine(n, n)
	}
}

// P12.1, P12.4: years have 365 days, or 366 if they are multiples of 4, but not 2100.
func TestYears(t *testing.T) {
	for year := 2000; year < 2199; year++ {
		a, e := days.Number(day(year, 1, 1))
		b, f := days.Number(day(year+1, 1, 1))
		want := 365
		if year%4 == 0 && year != 2100 {
			want = 366
		}
		if e != api.OK || f != api.OK || b-a != want {
			t.Error(year, b-a, e, f)
		}
	}
}
