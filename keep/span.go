package keep

import "lumberroom/civil"

const minutesOfDay = 1440

// span is a day, a week, a month or a year: which one of which year.
type span struct{ year, number int }

// What civil says of a day that is none is left out below: a time up to
// MaxTime lies in a day that there is.

func daySpan(day int) span {
	return span{number: day}
}

func weekSpan(day int) span {
	y, w, _ := civil.Week(day)
	return span{y, w}
}

func monthSpan(day int) span {
	y, m, _, _ := civil.Date(day)
	return span{y, m}
}

func yearSpan(day int) span {
	y, _, _, _ := civil.Date(day)
	return span{year: y}
}
