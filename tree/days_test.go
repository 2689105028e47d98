package tree_test

import (
	"math"
	"math/rand"
	"testing"
	"time"

	"hamper/api"
	"hamper/tree"
)

const mostTime = 1099511627776

// turns asks that a second and a day are told of one another.
func turns(t *testing.T, s int, d tree.Day) {
	t.Helper()
	if have, e := tree.DayOf(s); have != d || e != api.OK {
		t.Errorf("DayOf(%d) = %v, error %d, want %v", s, have, int(e), d)
	}
	if have, e := tree.Seconds(d); have != s || e != api.OK {
		t.Errorf("Seconds(%v) = %d, error %d, want %d", d, have, int(e), s)
	}
}

// P18.3: days told by hand.
func TestDays(t *testing.T) {
	for _, r := range []struct {
		s int
		d tree.Day
	}{
		{0, tree.Day{1970, 1, 1, 0, 0, 0}},
		{1, tree.Day{1970, 1, 1, 0, 0, 1}},
		{59, tree.Day{1970, 1, 1, 0, 0, 59}},
		{60, tree.Day{1970, 1, 1, 0, 1, 0}},
		{3599, tree.Day{1970, 1, 1, 0, 59, 59}},
		{3600, tree.Day{1970, 1, 1, 1, 0, 0}},
		{-1, tree.Day{1969, 12, 31, 23, 59, 59}},
		{-3600, tree.Day{1969, 12, 31, 23, 0, 0}},
		{86399, tree.Day{1970, 1, 1, 23, 59, 59}},
		{86400, tree.Day{1970, 1, 2, 0, 0, 0}},
		{-86400, tree.Day{1969, 12, 31, 0, 0, 0}},
		{-86401, tree.Day{1969, 12, 30, 23, 59, 59}},
		{951782399, tree.Day{2000, 2, 28, 23, 59, 59}},
		{951782400, tree.Day{2000, 2, 29, 0, 0, 0}},
		{951868799, tree.Day{2000, 2, 29, 23, 59, 59}},
		{951868800, tree.Day{2000, 3, 1, 0, 0, 0}},
		{978307199, tree.Day{2000, 12, 31, 23, 59, 59}},
		{978307200, tree.Day{2001, 1, 1, 0, 0, 0}},
		{-2208988800, tree.Day{1900, 1, 1, 0, 0, 0}},
		{-2208988801, tree.Day{1899, 12, 31, 23, 59, 59}},
		{-2203891201, tree.Day{1900, 2, 28, 23, 59, 59}},
		{-2203891200, tree.Day{1900, 3, 1, 0, 0, 0}},
		{4107542399, tree.Day{2100, 2, 28, 23, 59, 59}},
		{4107542400, tree.Day{2100, 3, 1, 0, 0, 0}},
		{1234567890, tree.Day{2009, 2, 13, 23, 31, 30}},
		{2147483648, tree.Day{2038, 1, 19, 3, 14, 8}},
		{-12219292800, tree.Day{1582, 10, 15, 0, 0, 0}},
		{-12219292801, tree.Day{1582, 10, 14, 23, 59, 59}},
		{-62135596800, tree.Day{1, 1, 1, 0, 0, 0}},
		{-62135596801, tree.Day{0, 12, 31, 23, 59, 59}},
		{-62162035201, tree.Day{0, 2, 29, 23, 59, 59}},
		{-62167219200, tree.Day{0, 1, 1, 0, 0, 0}},
		{-62167219201, tree.Day{-1, 12, 31, 23, 59, 59}},
		{-62198755200, tree.Day{-1, 1, 1, 0, 0, 0}},
		{-65322892800, tree.Day{-100, 1, 1, 0, 0, 0}},
		{-74790000000, tree.Day{-400, 1, 1, 0, 0, 0}},
		{-mostTime, tree.Day{-32873, 11, 12, 23, 23, 44}},
		{mostTime, tree.Day{36812, 2, 20, 0, 36, 16}},
	} {
		turns(t, r.s, r.d)
	}
}

// P18.3: what is no time.
func TestDayOfNone(t *testing.T) {
	for _, s := range []int{mostTime + 1, mostTime + 2, -mostTime - 1, 1 << 41, -1 << 41, 1 << 62, -1 << 62, math.MaxInt, math.MaxInt - 1, math.MinInt, math.MinInt + 1} {
		if d, e := tree.DayOf(s); d != (tree.Day{}) || e != api.ErrArg {
			t.Errorf("DayOf(%d) = %v, error %d", s, d, int(e))
		}
	}
}

// P18.3: every month of every year that there is: its first and its last second, its last day alone, and the one that it does not have.
func TestMonths(t *testing.T) {
	c := newCalendar()
	for year := -40000; year <= 40000; year++ {
		s := c.begin(year)
		for i, days := range monthsByWords(year) {
			first, last := tree.Day{year, i + 1, 1, 0, 0, 0}, tree.Day{year, i + 1, days, 23, 59, 59}
			end := s + days*86400 - 1
			if s >= -mostTime && end <= mostTime {
				turns(t, s, first)
				turns(t, end, last)
			} else {
				seconds(t, c, first)
				seconds(t, c, last)
			}
			if have, e := tree.Seconds(tree.Day{year, i + 1, days + 1, 0, 0, 0}); have != 0 || e != api.ErrArg {
				t.Errorf("%d-%d-%d: %d, error %d", year, i+1, days+1, have, int(e))
			}
			s = end + 1
		}
		if s != c.begin(year+1) {
			t.Fatal(year, s)
		}
	}
}

// P18.3: every day of some hundreds of years, and of the first and the last ones.
func TestEveryDay(t *testing.T) {
	c := newCalendar()
	for _, r := range [][2]int{{-410, 410}, {1500, 2500}, {-32873, -32850}, {36790, 36812}} {
		for s := c.begin(r[0]); s < c.begin(r[1]+1); s += 86400 {
			for _, x := range []int{s, s + 86399} {
				have, e := tree.DayOf(x)
				if want, wantError := c.day(x); have != want || e != wantError {
					t.Errorf("DayOf(%d) = %v, error %d, want %v, error %d", x, have, int(e), want, int(wantError))
				}
			}
		}
	}
}

// P18.3, P18.6: many seconds against the words and the library's calendar, each told back.
func TestRandomSeconds(t *testing.T) {
	c := newCalendar()
	random := rand.New(rand.NewSource(3))
	for i := range 200000 {
		s := random.Intn(2*mostTime+1) - mostTime
		if i%2 == 0 {
			s >>= random.Intn(40)
		}
		have, e := tree.DayOf(s)
		want, _ := c.day(s)
		if l := time.Unix(int64(s), 0).UTC(); want != (tree.Day{l.Year(), int(l.Month()), l.Day(), l.Hour(), l.Minute(), l.Second()}) {
			t.Fatal("the words and the library are not of one mind", s, want, l)
		}
		if have != want || e != api.OK {
			t.Errorf("DayOf(%d) = %v, error %d, want %v", s, have, int(e), want)
		}
		if back, e := tree.Seconds(have); back != s || e != api.OK {
			t.Errorf("Seconds of DayOf(%d) = %d, error %d", s, back, int(e))
		}
	}
}

// seconds holds Seconds against the words.
func seconds(t *testing.T, c calendar, d tree.Day) {
	t.Helper()
	have, e := tree.Seconds(d)
	if want, wantError := c.seconds(d); have != want || e != wantError {
		t.Errorf("Seconds(%v) = %d, error %d, want %d, error %d", d, have, int(e), want, int(wantError))
	}
}

// P18.3: each field at its least and greatest, one beyond, and far beyond.
func TestSecondsFields(t *testing.T) {
	refused := func(d tree.Day, want api.Errno) {
		t.Helper()
		if s, e := tree.Seconds(d); s != 0 || e != want {
			t.Errorf("Seconds(%v) = %d, error %d, want error %d", d, s, int(e), int(want))
		}
	}
	taken := func(d tree.Day) {
		t.Helper()
		if _, e := tree.Seconds(d); e != api.OK {
			t.Errorf("Seconds(%v): error %d", d, int(e))
		}
	}
	may := tree.Day{2001, 5, 15, 12, 30, 30}
	far := []int{-1, 400, 1 << 32, 1<<32 + 5, 1 << 62, math.MaxInt, math.MaxInt - 1, math.MinInt, math.MinInt + 1}
	for _, f := range []struct {
		field       func(d *tree.Day) *int
		least, most int
	}{
		{func(d *tree.Day) *int { return &d.Month }, 1, 12},
		{func(d *tree.Day) *int { return &d.Day }, 1, 31},
		{func(d *tree.Day) *int { return &d.Hour }, 0, 23},
		{func(d *tree.Day) *int { return &d.Minute }, 0, 59},
		{func(d *tree.Day) *int { return &d.Second }, 0, 59},
	} {
		for v := f.least - 3; v <= f.most+3; v++ {
			d := may
			*f.field(&d) = v
			if v < f.least || v > f.most {
				refused(d, api.ErrArg)
				d.Year = 40000 // ErrArg is told ahead of ErrBig
				refused(d, api.ErrArg)
				d.Year = -40000
				refused(d, api.ErrArg)
			} else {
				taken(d)
				d.Year = 40000
				refused(d, api.ErrBig)
			}
		}
		for _, v := range far {
			d := may
			*f.field(&d) = v
			refused(d, api.ErrArg)
		}
	}
	for _, year := range []int{-40001, 40001, -40002, 80000, 1 << 32, math.MaxInt, math.MinInt, math.MaxInt - 40000, math.MinInt + 40000} {
		d := may
		d.Year = year
		refused(d, api.ErrArg)
	}
	for _, year := range []int{-40000, -39999, 39999, 40000, -32874, 36813} {
		d := may
		d.Year = year
		refused(d, api.ErrBig)
		refused(tree.Day{year, 1, 1, 0, 0, 0}, api.ErrBig)
		refused(tree.Day{year, 12, 31, 23, 59, 59}, api.ErrBig)
	}
	refused(tree.Day{}, api.ErrArg)
	refused(tree.Day{-32873, 11, 12, 23, 23, 43}, api.ErrBig)
	taken(tree.Day{-32873, 11, 12, 23, 23, 44})
	taken(tree.Day{36812, 2, 20, 0, 36, 16})
	refused(tree.Day{36812, 2, 20, 0, 36, 17}, api.ErrBig)
	refused(tree.Day{-40000, 2, 30, 0, 0, 0}, api.ErrArg)
	refused(tree.Day{-40000, 2, 29, 0, 0, 0}, api.ErrBig)
	refused(tree.Day{40000, 2, 29, 0, 0, 0}, api.ErrBig)
	refused(tree.Day{39999, 2, 29, 0, 0, 0}, api.ErrArg)
	for _, year := range []int{1900, 2100, 2200, 2001, 1999, 1, -1, -100, -2, -99, 100, -32801} {
		refused(tree.Day{year, 2, 29, 0, 0, 0}, api.ErrArg)
		taken(tree.Day{year, 2, 28, 23, 59, 59})
	}
	for _, year := range []int{2000, 1996, 2004, 1600, 0, -4, 4, -400, 400, -32800} {
		taken(tree.Day{year, 2, 29, 0, 0, 0})
		refused(tree.Day{year, 2, 30, 0, 0, 0}, api.ErrArg)
	}
	for _, month := range []int{4, 6, 9, 11} {
		taken(tree.Day{2001, month, 30, 0, 0, 0})
		refused(tree.Day{2001, month, 31, 0, 0, 0}, api.ErrArg)
	}
	for _, month := range []int{1, 3, 5, 7, 8, 10, 12} {
		taken(tree.Day{2001, month, 31, 0, 0, 0})
		refused(tree.Day{2001, month, 32, 0, 0, 0}, api.ErrArg)
	}
}

// P18.3: days of any fields against the words.
func TestRandomDays(t *testing.T) {
	c := newCalendar()
	random := rand.New(rand.NewSource(33))
	for range 200000 {
		seconds(t, c, tree.Day{random.Intn(80005) - 40002, random.Intn(14), random.Intn(33), random.Intn(26) - 1, random.Intn(62) - 1, random.Intn(62) - 1})
	}
}

// dos holds Dos against the words, and what it tells against what OfDos tells of it.
func dos(t *testing.T, c calendar, s int) {
	t.Helper()
	date, time, e := tree.Dos(s)
	wantDate, wantTime, want := c.dos(s)
	if date != wantDate || time != wantTime || e != want {
		t.Errorf("Dos(%d) = %d, %d, error %d, want %d, %d, error %d", s, date, time, int(e), wantDate, wantTime, int(want))
	}
	if e != api.OK {
		return
	}
	if back, e := tree.OfDos(date, time); back != s-s%2 || e != api.OK { // P18.6
		t.Errorf("OfDos of Dos(%d) = %d, error %d", s, back, int(e))
	}
}

// P18.4: times told by hand, the first and the last ones, and those beside them.
func TestDos(t *testing.T) {
	for _, r := range []struct {
		s, date, time int
		want          api.Errno
	}{
		{315532799, 0, 0, api.ErrFit},
		{315532800, 33, 0, api.OK},
		{315532801, 33, 0, api.OK},
		{315532802, 33, 1, api.OK},
		{315532803, 33, 1, api.OK},
		{315619199, 33, 23<<11 + 59<<5 + 29, api.OK},
		{315619200, 34, 0, api.OK},
		{1234567890, 29<<9 + 2<<5 + 13, 23<<11 + 31<<5 + 15, api.OK},
		{1234567891, 29<<9 + 2<<5 + 13, 23<<11 + 31<<5 + 15, api.OK},
		{951782400, 20<<9 + 2<<5 + 29, 0, api.OK},
		{4354819198, 65439, 49021, api.OK},
		{4354819199, 65439, 49021, api.OK},
		{4354819200, 0, 0, api.ErrFit},
		{0, 0, 0, api.ErrFit},
		{-1, 0, 0, api.ErrFit},
		{mostTime, 0, 0, api.ErrFit},
		{-mostTime, 0, 0, api.ErrFit},
		{mostTime + 1, 0, 0, api.ErrArg},
		{-mostTime - 1, 0, 0, api.ErrArg},
		{math.MaxInt, 0, 0, api.ErrArg},
		{math.MinInt, 0, 0, api.ErrArg},
	} {
		if date, time, e := tree.Dos(r.s); date != r.date || time != r.time || e != r.want {
			t.Errorf("Dos(%d) = %d, %d, error %d, want %d, %d, error %d", r.s, date, time, int(e), r.date, r.time, int(r.want))
		}
	}
}

// P18.4, P18.6: every day that there is, at some of its seconds, and the days around.
func TestDosDays(t *testing.T) {
	c := newCalendar()
	random := rand.New(rand.NewSource(4))
	for s := c.begin(1979); s < c.begin(2109); s += 86400 {
		dos(t, c, s)
		dos(t, c, s+86399)
		dos(t, c, s+random.Intn(86400))
	}
	for s := range 86400 {
		dos(t, c, 1<<30+s)
	}
	for range 10000 {
		dos(t, c, random.Intn(2*mostTime)-mostTime)
		dos(t, c, random.Int()>>random.Intn(40))
	}
}

// ofDos holds OfDos against the words, and what it tells against Dos of it.
func ofDos(t *testing.T, c calendar, date, time int) {
	t.Helper()
	s, e := tree.OfDos(date, time)
	if want, wantError := c.ofDos(date, time); s != want || e != wantError {
		t.Errorf("OfDos(%d, %d) = %d, error %d, want %d, error %d", date, time, s, int(e), want, int(wantError))
	}
	if e != api.OK {
		return
	}
	if backDate, backTime, e := tree.Dos(s); backDate != date || backTime != time || e != api.OK {
		t.Errorf("Dos of OfDos(%d, %d) = %d, %d, error %d", date, time, backDate, backTime, int(e))
	}
}

// P18.4: dates and times told by hand, and fields that are none.
func TestOfDos(t *testing.T) {
	is := func(date, time, want int, wantError api.Errno) {
		t.Helper()
		if s, e := tree.OfDos(date, time); s != want || e != wantError {
			t.Errorf("OfDos(%d, %d) = %d, error %d, want %d, error %d", date, time, s, int(e), want, int(wantError))
		}
	}
	is(33, 0, 315532800, api.OK)
	is(33, 1, 315532802, api.OK)
	is(65439, 49021, 4354819198, api.OK)
	is(29<<9+2<<5+13, 23<<11+31<<5+15, 1234567890, api.OK)
	is(20<<9+2<<5+29, 0, 951782400, api.OK)
	for _, x := range []int{-1, -33, 33 - 512, 33 - 65536, 65536, 65536 + 33, 1<<32 + 33, math.MaxInt, math.MinInt, math.MinInt + 33} {
		is(x, 0, 0, api.ErrForm)
		is(33, x, 0, api.ErrForm)
		is(x, x, 0, api.ErrForm)
	}
	is(0, 0, 0, api.ErrForm)
	is(65535, 0, 0, api.ErrForm)
	is(33, 65535, 0, api.ErrForm)
	for year := range 128 {
		is(year<<9+0<<5+1, 0, 0, api.ErrForm)
		is(year<<9+13<<5+1, 0, 0, api.ErrForm)
		is(year<<9+14<<5+1, 0, 0, api.ErrForm)
		is(year<<9+15<<5+31, 0, 0, api.ErrForm)
		for month := 1; month <= 12; month++ {
			is(year<<9+month<<5, 0, 0, api.ErrForm)
		}
		for _, month := range []int{2, 4, 6, 9, 11} {
			is(year<<9+month<<5+31, 0, 0, api.ErrForm)
		}
		is(year<<9+2<<5+30, 0, 0, api.ErrForm)
	}
	is(120<<9+2<<5+29, 0, 0, api.ErrForm) // 2100
	is(1<<9+2<<5+29, 0, 0, api.ErrForm)   // 1981
	is(33, 24<<11, 0, api.ErrForm)
	is(33, 31<<11, 0, api.ErrForm)
	is(33, 60<<5, 0, api.ErrForm)
	is(33, 63<<5, 0, api.ErrForm)
	is(33, 30, 0, api.ErrForm)
	is(33, 31, 0, api.ErrForm)
	is(33, 29, 315532858, api.OK)
	is(33, 59<<5, 315532800+3540, api.OK)
	is(33, 23<<11, 315532800+82800, api.OK)
}

// P18.4, P18.6: every date with a time, and every time with a date; many of both.
func TestOfDosAll(t *testing.T) {
	c := newCalendar()
	random := rand.New(rand.NewSource(44))
	for x := -2; x <= 65537; x++ {
		ofDos(t, c, x, 0)
		ofDos(t, c, x, 49021)
		ofDos(t, c, 33, x)
		ofDos(t, c, 65439, x)
		ofDos(t, c, x, random.Intn(65536))
		ofDos(t, c, random.Intn(65536), x)
	}
}
