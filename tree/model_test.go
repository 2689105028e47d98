package tree_test

import (
	"bytes"
	"slices"
	"strings"

	"hamper/api"
	"hamper/tree"
)

// The model tells each answer by the document's words alone, with its own numbers, in other ways than the program: nodes are held against all others one by one, and the calendar is gone through from 1970 on, year by year and month by month.

// namesByWords tells a path's names, none of what is no path.
func namesByWords(s string) []string {
	l := strings.Split(s, "/")
	if len(l) > 64 || len(s) > 1024 {
		return nil
	}
	for _, name := range l {
		if name == "" || name == "." || name == ".." || len(name) > 255 || strings.Contains(name, "\x00") {
			return nil
		}
	}
	return l
}

func aboveByWords(a, b string) bool {
	return slices.Compare(strings.Split(a, "/"), strings.Split(b, "/")) > 0
}

// aloneByWords tells what is wrong with a node alone.
func aloneByWords(n api.Node) api.Errno {
	if namesByWords(n.Path) == nil {
		return 20
	}
	size := len(n.Data)
	may := n.Kind == 1 && size == 0 || n.Kind == 2 && size <= 268435456 || n.Kind == 3 && size >= 1 && size <= 1024 && bytes.Count(n.Data, []byte{0}) == 0
	if !may || n.Mode < 0 || n.Mode > 4095 || n.Time < -1099511627776 || n.Time > 1099511627776 {
		return 21
	}
	return 0
}

func checkByWords(l []api.Node) (int, api.Errno) {
	for i, n := range l {
		if e := aloneByWords(n); e != 0 {
			return i, e
		}
		names := namesByWords(n.Path)
		housed := len(names) == 1
		for _, ahead := range l[:i] {
			if !aboveByWords(n.Path, ahead.Path) {
				return i, 21
			}
			if ahead.Kind == 1 && ahead.Path == strings.Join(names[:len(names)-1], "/") {
				housed = true
			}
		}
		if !housed || i > 65535 {
			return i, 21
		}
	}
	return 0, 0
}

func growByWords(l []api.Node) ([]api.Node, api.Errno) {
	byPath := func(l []api.Node, path string) bool {
		return slices.ContainsFunc(l, func(n api.Node) bool { return n.Path == path })
	}
	for i, n := range l {
		if e := aloneByWords(n); e != 0 {
			return nil, e
		}
		if byPath(l[:i], n.Path) {
			return nil, 21
		}
	}
	var all []api.Node
	insert := func(n api.Node) {
		at := 0
		for at < len(all) && aboveByWords(n.Path, all[at].Path) {
			at++
		}
		all = slices.Insert(all, at, n)
	}
	for _, n := range l {
		insert(n)
	}
	for _, n := range l {
		names := namesByWords(n.Path)
		for depth := 1; depth < len(names); depth++ {
			if path := strings.Join(names[:depth], "/"); !byPath(all, path) {
				insert(api.Node{Kind: 1, Path: path, Mode: 493})
			}
		}
	}
	if _, e := checkByWords(all); e != 0 {
		return nil, e
	}
	return all, 0
}

func sameByWords(a, b []api.Node) bool {
	if len(a) != len(b) {
		return false
	}
	for i, n := range a {
		m := b[i]
		if n.Kind != m.Kind || n.Path != m.Path || string(n.Data) != string(m.Data) || n.Mode != m.Mode || n.Time != m.Time {
			return false
		}
	}
	return true
}

func projectByWords(l []api.Node, format int) ([]api.Node, api.Errno) {
	if !slices.Contains([]int{1, 2, 3, 4, 5, 6}, format) {
		return nil, 16
	}
	if _, e := checkByWords(l); e != 0 {
		return nil, 21
	}
	if format == 2 && len(l) > 65535 {
		return nil, 22
	}
	if format >= 3 && format <= 5 && (len(l) != 1 || l[0].Kind != 2 || strings.Contains(l[0].Path, "/")) {
		return nil, 22
	}
	var kept []api.Node
	for _, n := range l {
		switch format {
		case 2: // from 1980-01-01 to 2107-12-31 23:59:59
			if n.Time < 315532800 || n.Time > 4354819199 {
				return nil, 22
			}
			n.Time -= n.Time % 2
		case 3:
			if n.Time < 0 || n.Time > 4294967295 {
				return nil, 22
			}
			n.Mode = 420
		case 4, 5:
			if n.Path != "data" {
				return nil, 22
			}
			n.Mode, n.Time = 420, 0
		}
		kept = append(kept, n)
	}
	return kept, 0
}

func leapByWords(year int) bool { return year%400 == 0 || year%4 == 0 && year%100 != 0 }

// monthsByWords tells how many days each month of a year has.
func monthsByWords(year int) []int {
	l := []int{31, 28, 31, 30, 31, 30, 31, 31, 30, 31, 30, 31}
	if leapByWords(year) {
		l[1]++
	}
	return l
}

// calendar is of each year from -40001 to 40002 the second with which it begins.
type calendar []int

func newCalendar() calendar {
	c := make(calendar, 80004)
	length := func(year int) int {
		days := 0
		for _, n := range monthsByWords(year) {
			days += n
		}
		return days * 86400
	}
	for year := 1970; year < 40002; year++ {
		c[year+1+40001] = c.begin(year) + length(year)
	}
	for year := 1970; year > -40001; year-- {
		c[year-1+40001] = c.begin(year) - length(year-1)
	}
	return c
}

func (c calendar) begin(year int) int { return c[year+40001] }

func (c calendar) seconds(d tree.Day) (int, api.Errno) {
	if d.Year < -40000 || d.Year > 40000 || d.Month < 1 || d.Month > 12 || d.Day < 1 || d.Day > monthsByWords(d.Year)[d.Month-1] {
		return 0, 2
	}
	if d.Hour < 0 || d.Hour > 23 || d.Minute < 0 || d.Minute > 59 || d.Second < 0 || d.Second > 59 {
		return 0, 2
	}
	s := c.begin(d.Year) + 86400*(d.Day-1) + 3600*d.Hour + 60*d.Minute + d.Second
	for _, days := range monthsByWords(d.Year)[:d.Month-1] {
		s += 86400 * days
	}
	if s < -1099511627776 || s > 1099511627776 {
		return 0, 3
	}
	return s, 0
}

func (c calendar) day(seconds int) (tree.Day, api.Errno) {
	if seconds < -1099511627776 || seconds > 1099511627776 {
		return tree.Day{}, 2
	}
	year := 1970 + seconds/31556952 // the mean year
	for c.begin(year) > seconds {
		year--
	}
	for c.begin(year+1) <= seconds {
		year++
	}
	rest := seconds - c.begin(year)
	d := tree.Day{Year: year, Month: 1, Day: 1 + rest/86400, Hour: rest / 3600 % 24, Minute: rest / 60 % 60, Second: rest % 60}
	for d.Day > monthsByWords(year)[d.Month-1] {
		d.Day -= monthsByWords(year)[d.Month-1]
		d.Month++
	}
	return d, 0
}

func (c calendar) dos(seconds int) (date, time int, e api.Errno) {
	d, e := c.day(seconds)
	if e != 0 {
		return 0, 0, e
	}
	if d.Year < 1980 || d.Year > 2107 {
		return 0, 0, 22
	}
	return (d.Year-1980)*512 + d.Month*32 + d.Day, d.Hour*2048 + d.Minute*32 + d.Second/2, 0
}

func (c calendar) ofDos(date, time int) (int, api.Errno) {
	if date < 0 || date > 65535 || time < 0 || time > 65535 {
		return 0, 11
	}
	s, e := c.seconds(tree.Day{Year: 1980 + date/512, Month: date / 32 % 16, Day: date % 32, Hour: time / 2048, Minute: time / 32 % 64, Second: time % 32 * 2})
	if e != 0 {
		return 0, 11
	}
	return s, 0
}
