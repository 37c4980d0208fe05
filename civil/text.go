package civil

import (
	"strconv"
	"strings"

	"lumberroom/api"
)

// form is how a date is written: a digit stands for each sign that is no dash.
const (
	form     = "YYYY-MM-DD"
	dash     = '-'
	yearEnd  = 4
	monthAt  = 5
	monthEnd = 7
	dayAt    = 8
)

// Text: P55.
func Text(n int) (string, api.Errno) {
	y, m, d, err := Date(n)
	if err != api.OK {
		return "", err
	}
	return inDigits(y, yearEnd) + "-" + inDigits(m, monthEnd-monthAt) + "-" + inDigits(d, len(form)-dayAt), api.OK
}

// Read: P55.
func Read(s string) (int, api.Errno) {
	if !isOfForm(s) {
		return 0, api.ErrSyntax
	}
	return Days(number(s[:yearEnd]), number(s[monthAt:monthEnd]), number(s[dayAt:]))
}

// inDigits is n with as many zeros ahead of it as make it count digits.
func inDigits(n, count int) string {
	s := strconv.Itoa(n)
	return strings.Repeat("0", count-len(s)) + s
}

func isOfForm(s string) bool {
	if len(s) != len(form) {
		return false
	}
	for i, c := range []byte(s) {
		if form[i] == dash && c != dash || form[i] != dash && (c < '0' || c > '9') {
			return false
		}
	}
	return true
}

// number is what digits stand for.
func number(digits string) int {
	n := 0
	for _, c := range []byte(digits) {
		n = n*10 + int(c-'0')
	}
	return n
}
