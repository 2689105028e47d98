package tree

import (
	"sort"

	"hamper/api"
)

const (
	mostYear  = 40000 // years are told from as far below 0 on
	inMinute  = 60
	inHour    = 60 * inMinute
	inDay     = 24 * inHour
	firstYear = 1970 // with which seconds begin
)

// Day is a day and a time of it.
type Day struct{ Year, Month, Day, Hour, Minute, Second int }

// DayOf tells the day and time of seconds from 1970 on.
func DayOf(seconds int) (Day, api.Errno) {
	if !isTime(seconds) {
		return Day{}, api.ErrArg
	}
	seconds += daysAhead(firstYear) * inDay
	days, rest := seconds/inDay, seconds%inDay
	year := sort.Search(2*mostYear, func(y int) bool { return daysAhead(y-mostYear+1) > days }) - mostYear
	month, day := monthOf(year, days-daysAhead(year))
	return Day{Year: year, Month: month, Day: day, Hour: rest / inHour, Minute: rest % inHour / inMinute, Second: rest % inMinute}, api.OK
}

// Seconds tells them of a day and time.
func Seconds(d Day) (int, api.Errno) {
	if !isDay(d) || !isTimeOfDay(d) {
		return 0, api.ErrArg
	}
	days := daysAhead(d.Year) - daysAhead(firstYear) + d.Day - 1
	for ahead := range d.Month - 1 {
		days += daysIn(d.Year, ahead+1)
	}
	seconds := days*inDay + d.Hour*inHour + d.Minute*inMinute + d.Second
	if !isTime(seconds) {
		return 0, api.ErrBig
	}
	return seconds, api.OK
}

func isDay(d Day) bool {
	return d.Year >= -mostYear && d.Year <= mostYear && d.Month >= 1 && d.Month <= 12 && d.Day >= 1 && d.Day <= daysIn(d.Year, d.Month)
}

func isTimeOfDay(d Day) bool {
	return d.Hour >= 0 && d.Hour < 24 && d.Minute >= 0 && d.Minute < 60 && d.Second >= 0 && d.Second < 60
}

// daysAhead tells how many days there are from the least year on to the beginning of a year. The least one is the first of 400 years, in which leap years come in turn, so that none of these numbers is below 0.
func daysAhead(year int) int {
	years := year + mostYear
	return years*365 + (years+3)/4 - (years+99)/100 + (years+399)/400
}

// daysIn tells how many days a month has.
func daysIn(year, month int) int {
	switch month {
	case 2:
		return daysAhead(year+1) - daysAhead(year) - 337 // those of all others
	case 4, 6, 9, 11:
		return 30
	}
	return 31
}

// monthOf tells the month and the day of it behind so many days of a year.
func monthOf(year, days int) (month, day int) {
	for ahead := range 12 {
		month = ahead + 1
		if days < daysIn(year, month) {
			break
		}
		days -= daysIn(year, month)
	}
	return month, days + 1
}
