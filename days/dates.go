package days

import "fasti/api"

const (
	firstYear = 2000
	lastYear  = 2199
	plainYear = 2100 // the only multiple of 4 among the years that has no February 29
	february  = 2
	saturday  = 5
)

// lengths are the numbers of days of the months of a year without a February 29.
var lengths = [12]int{31, 28, 31, 30, 31, 30, 31, 31, 30, 31, 30, 31}

func isDay(n int) bool { return n >= 0 && n <= api.MaxDay }

func isLeap(year int) bool { return year%4 == 0 && year != plainYear }

func length(year, month int) int {
	if month == february && isLeap(year) {
		return 29
	}
	return lengths[month-1]
}

func isDate(d api.Date) bool {
	return d.Year >= firstYear && d.Year <= lastYear && d.Month >= 1 && d.Month <= len(lengths) && d.Day >= 1 && d.Day <= length(d.Year, d.Month)
}

// firstOfYear returns the day of January 1; the year after the last one has the number that its January 1 would have.
func firstOfYear(year int) int {
	y := year - firstYear
	n := 365*y + (y+3)/4 // every fourth year before it is a leap year, and the first one is
	if year > plainYear {
		n--
	}
	return n
}

func firstOfMonth(year, month int) int {
	n := firstOfYear(year)
	for m := 1; m < month; m++ {
		n += length(year, m)
	}
	return n
}

// date returns the date of a day.
func date(n int) api.Date {
	d := api.Date{Year: firstYear + n/366, Month: 1} // not too late, since no year is longer
	for firstOfYear(d.Year+1) <= n {
		d.Year++
	}
	n -= firstOfYear(d.Year)
	for n >= length(d.Year, d.Month) {
		n -= length(d.Year, d.Month)
		d.Month++
	}
	d.Day = n + 1
	return d
}
