package tree

import "hamper/api"

const (
	dosYear  = 1980
	dosYears = 128     // as many as seven bits number
	dosMost  = 1 << 16 // numbers of two bytes are below it
)

// Dos tells a time in the form that zip has.
func Dos(seconds int) (date, time int, e api.Errno) {
	d, e := DayOf(seconds)
	if e != api.OK {
		return 0, 0, e
	}
	if d.Year < dosYear || d.Year >= dosYear+dosYears {
		return 0, 0, api.ErrFit
	}
	return (d.Year-dosYear)<<9 | d.Month<<5 | d.Day, d.Hour<<11 | d.Minute<<5 | d.Second/2, api.OK
}

// OfDos reads it.
func OfDos(date, time int) (int, api.Errno) {
	if date < 0 || date >= dosMost || time < 0 || time >= dosMost {
		return 0, api.ErrForm
	}
	d := Day{Year: dosYear + date>>9, Month: date >> 5 & 15, Day: date & 31, Hour: time >> 11, Minute: time >> 5 & 63, Second: time & 31 * 2}
	seconds, e := Seconds(d)
	if e != api.OK {
		return 0, api.ErrForm
	}
	return seconds, api.OK
}
