package span

const epoch = 1970 // the year with which the times begin

// A date is a day of the Gregorian calendar.
type date struct{ year, month, day int }

// is tells whether there is such a day.
func (d date) is() bool {
	return 1 <= d.month && d.month <= 12 && 1 <= d.day && d.day <= daysOf(d.year, d.month)
}

// number is how many days lie ahead of this one, from the beginning of 1970 on; below 0 for one ahead of that.
func (d date) number() int {
	n := daysAhead(d.year) + d.day - 1
	for month := 1; month < d.month; month++ {
		n += daysOf(d.year, month)
	}
	return n
}

// dateOf is the day of a number from 0 on.
func dateOf(days int) date {
	d := date{year: epoch, month: 1}
	for daysAhead(d.year+1) <= days {
		d.year++
	}
	left := days - daysAhead(d.year)
	for left >= daysOf(d.year, d.month) {
		left -= daysOf(d.year, d.month)
		d.month++
	}
	d.day = left + 1
	return d
}

// daysAhead is how many days lie ahead of a year, from the beginning of 1970 on.
func daysAhead(year int) int {
	return 365*(year-epoch) + leapYears(year-1) - leapYears(epoch-1)
}

func daysOf(year, month int) int {
	switch month {
	case 2:
		return 28 + leapYears(year) - leapYears(year-1)
	case 4, 6, 9, 11:
		return 30
	}
	return 31
}

// leapYears is how many there are up to this year.
func leapYears(year int) int { return year/4 - year/100 + year/400 }
