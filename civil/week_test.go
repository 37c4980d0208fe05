package civil_test

import (
	"testing"

	"lumberroom/api"
	"lumberroom/civil"
)

// someWeeks are years that begin on each day of the week, leap years or not, at
// both ends, and the edges of what there is.
var someWeeks = []struct {
	date             string
	weekday, y, week int
}{
	{"1970-01-01", 4, 1970, 1},
	{"1969-12-31", 3, 1970, 1},
	{"1969-12-28", 7, 1969, 52},
	{"1969-12-29", 1, 1970, 1},
	{"1970-12-31", 4, 1970, 53},
	{"1971-01-03", 7, 1970, 53},
	{"1971-01-04", 1, 1971, 1},
	{"2000-02-29", 2, 2000, 9},
	{"2000-01-01", 6, 1999, 52},
	{"2000-01-02", 7, 1999, 52},
	{"2000-01-03", 1, 2000, 1},
	{"2000-12-31", 7, 2000, 52},
	{"2001-01-01", 1, 2001, 1},
	{"2001-12-31", 1, 2002, 1},
	{"2004-12-31", 5, 2004, 53},
	{"2005-01-01", 6, 2004, 53},
	{"2008-12-28", 7, 2008, 52},
	{"2008-12-29", 1, 2009, 1},
	{"2009-12-31", 4, 2009, 53},
	{"2010-01-03", 7, 2009, 53},
	{"2010-01-04", 1, 2010, 1},
	{"2012-01-01", 7, 2011, 52},
	{"2018-12-31", 1, 2019, 1},
	{"2019-12-30", 1, 2020, 1},
	{"2020-12-31", 4, 2020, 53},
	{"2021-01-03", 7, 2020, 53},
	{"2021-01-04", 1, 2021, 1},
	{"2024-12-29", 7, 2024, 52},
	{"2024-12-30", 1, 2025, 1},
	{"2026-11-19", 4, 2026, 47},
	{"0001-01-01", 1, 1, 1},
	{"0001-01-07", 7, 1, 1},
	{"0001-01-08", 1, 1, 2},
	{"0001-12-30", 7, 1, 52},
	{"0001-12-31", 1, 2, 1},
	{"9999-12-31", 5, 9999, 52},
	{"9999-12-27", 1, 9999, 52},
	{"9999-12-26", 7, 9999, 51},
	{"9999-01-03", 7, 9998, 53},
	{"9999-01-04", 1, 9999, 1},
}

func TestWeekday(t *testing.T) {
	for _, c := range someWeeks {
		n, _ := civil.Read(c.date)
		if day, err := civil.Weekday(n); day != c.weekday || err != api.OK {
			t.Errorf("Weekday of %s = %d, %v, want %d", c.date, day, err, c.weekday)
		}
	}
	for _, n := range noDays {
		if day, err := civil.Weekday(n); day != 0 || err != api.ErrArg {
			t.Errorf("Weekday(%d) = %d, %v, want 0, ErrArg", n, day, err)
		}
	}
}

func TestWeek(t *testing.T) {
	for _, c := range someWeeks {
		n, _ := civil.Read(c.date)
		if y, w, err := civil.Week(n); y != c.y || w != c.week || err != api.OK {
			t.Errorf("Week of %s = %d, %d, %v, want %d, %d", c.date, y, w, err, c.y, c.week)
		}
	}
	for _, n := range noDays {
		if y, w, err := civil.Week(n); y != 0 || w != 0 || err != api.ErrArg {
			t.Errorf("Week(%d) = %d, %d, %v, want nothing, ErrArg", n, y, w, err)
		}
	}
}

func TestWeeksOfAllDays(t *testing.T) {
	var all []byte
	for n := api.FirstDay; n <= api.LastDay; n++ {
		day, _ := civil.Weekday(n)
		y, w, _ := civil.Week(n)
		all = appendLine(all, day, y, w)
	}
	checkSum(t, "all weeks", all, 0x94fe6391)
}
