package civil_test

import (
	"regexp"
	"strconv"
	"strings"
	"sync"
	"testing"

	"lumberroom/api"
	"lumberroom/civil"
)

// What stands here is written anew from the chapter's words: a calendar that is
// gone through day by day, and looked into.

type page struct {
	y        int16
	m, d     int8
	weekday  int8
	week     int8
	weekYear int16
}

func slowLeap(y int) bool {
	if y%400 == 0 {
		return true
	}
	if y%100 == 0 {
		return false
	}
	return y%4 == 0
}

func slowLength(y, m int) int {
	switch m {
	case 4, 6, 9, 11:
		return 30
	case 2:
		if slowLeap(y) {
			return 29
		}
		return 28
	}
	return 31
}

// pages are all days, the first one of year 1 at 0.
func pages() []page {
	var l []page
	for y := 1; y <= 9999; y++ {
		for m := 1; m <= 12; m++ {
			for d := 1; d <= slowLength(y, m); d++ {
				l = append(l, page{y: int16(y), m: int8(m), d: int8(d)})
			}
		}
	}
	markWeekdays(l)
	markWeeks(l)
	return l
}

// markWeekdays goes on from day 0, a Thursday, to both ends.
func markWeekdays(l []page) {
	zero := 0
	for l[zero].y != 1970 {
		zero++
	}
	weekday := int8(4)
	for i := zero; i < len(l); i++ {
		l[i].weekday = weekday
		if weekday++; weekday > 7 {
			weekday = 1
		}
	}
	weekday = 4
	for i := zero; i >= 0; i-- {
		l[i].weekday = weekday
		if weekday--; weekday < 1 {
			weekday = 7
		}
	}
}

// markWeeks counts the Thursdays of each year: the week of each of them has the
// three days ahead of it and the three days behind it.
func markWeeks(l []page) {
	var count int8
	for i := range l {
		if i > 0 && l[i].y != l[i-1].y {
			count = 0
		}
		if l[i].weekday != 4 {
			continue
		}
		count++
		for k := max(i-3, 0); k <= min(i+3, len(l)-1); k++ {
			l[k].week, l[k].weekYear = count, l[i].y
		}
	}
}

type book struct {
	pages  []page
	zero   int
	firsts map[int]int // where each year begins
}

var calendar = sync.OnceValue(func() book {
	b := book{pages: pages(), firsts: map[int]int{}}
	for i, p := range b.pages {
		if p.m == 1 && p.d == 1 {
			b.firsts[int(p.y)] = i
		}
	}
	b.zero = b.firsts[1970]
	return b
})

func slowPage(n int) (page, api.Errno) {
	if n < -719162 || n > 2932896 {
		return page{}, api.ErrArg
	}
	b := calendar()
	return b.pages[b.zero+n], api.OK
}

func slowDays(y, m, d int) (int, api.Errno) {
	b := calendar()
	first, there := b.firsts[y]
	if !there {
		return 0, api.ErrArg
	}
	for i := first; i < len(b.pages) && int(b.pages[i].y) == y; i++ {
		if int(b.pages[i].m) == m && int(b.pages[i].d) == d {
			return i - b.zero, api.OK
		}
	}
	return 0, api.ErrArg
}

func slowDigits(n, count int) string {
	s := "0000" + strconv.Itoa(n)
	return s[len(s)-count:]
}

func slowText(n int) (string, api.Errno) {
	p, err := slowPage(n)
	if err != api.OK {
		return "", err
	}
	l := []string{slowDigits(int(p.y), 4), slowDigits(int(p.m), 2), slowDigits(int(p.d), 2)}
	return strings.Join(l, "-"), api.OK
}

var dateForm = regexp.MustCompile(`\A([0-9]{4})-([0-9]{2})-([0-9]{2})\z`)

func slowRead(s string) (int, api.Errno) {
	parts := dateForm.FindStringSubmatch(s)
	if parts == nil {
		return 0, api.ErrSyntax
	}
	y, _ := strconv.Atoi(parts[1])
	m, _ := strconv.Atoi(parts[2])
	d, _ := strconv.Atoi(parts[3])
	return slowDays(y, m, d)
}

func checkDays(t *testing.T, y, m, d int) {
	t.Helper()
	want, wantErr := slowDays(y, m, d)
	if n, err := civil.Days(y, m, d); n != want || err != wantErr {
		t.Errorf("Days(%d, %d, %d) = %d, %v, want %d, %v", y, m, d, n, err, want, wantErr)
	}
}

// checkDay asks all calls of a number of a day.
func checkDay(t *testing.T, n int) {
	t.Helper()
	want, wantErr := slowPage(n)
	if err := civil.OK(n); err != wantErr {
		t.Errorf("OK(%d) = %v, want %v", n, err, wantErr)
	}
	if y, m, d, err := civil.Date(n); y != int(want.y) || m != int(want.m) || d != int(want.d) || err != wantErr {
		t.Errorf("Date(%d) = %d, %d, %d, %v, want %d, %d, %d, %v", n, y, m, d, err, want.y, want.m, want.d, wantErr)
	}
	if day, err := civil.Weekday(n); day != int(want.weekday) || err != wantErr {
		t.Errorf("Weekday(%d) = %d, %v, want %d, %v", n, day, err, want.weekday, wantErr)
	}
	if y, w, err := civil.Week(n); y != int(want.weekYear) || w != int(want.week) || err != wantErr {
		t.Errorf("Week(%d) = %d, %d, %v, want %d, %d, %v", n, y, w, err, want.weekYear, want.week, wantErr)
	}
	text, _ := slowText(n)
	if s, err := civil.Text(n); s != text || err != wantErr {
		t.Errorf("Text(%d) = %q, %v, want %q, %v", n, s, err, text, wantErr)
	}
}

func checkRead(t *testing.T, s string) {
	t.Helper()
	want, wantErr := slowRead(s)
	if n, err := civil.Read(s); n != want || err != wantErr {
		t.Errorf("Read(%.40q) = %d, %v, want %d, %v", s, n, err, want, wantErr)
	}
}
