package keep_test

import (
	"fmt"
	"slices"
	"testing"
	"time"

	"lumberroom/api"
	"lumberroom/keep"
)

// What stands here is written anew from the chapter's words, with the
// calendar of Go's library.

func slowCheck(p api.Policy) api.Errno {
	for _, n := range fields(&p) {
		if !(0 <= *n && *n <= 100) {
			return api.ErrArg
		}
	}
	return api.OK
}

func slowTimes(times []int) api.Errno {
	if len(times) > 200 {
		return api.ErrLarge
	}
	for i := range times {
		switch {
		case times[i] < 0, times[i] > 4223371679:
			return api.ErrArg
		case i > 0 && times[i-1] < times[i]:
			return api.ErrForm
		}
	}
	return api.OK
}

func dateOf(minutes int) time.Time { return time.Unix(int64(minutes)*60, 0).UTC() }

// spansOf tells in which day, week, month and year a time lies.
func spansOf(minutes int) [4]string {
	date := dateOf(minutes)
	y, w := date.ISOWeek()
	return [4]string{date.Format("2006-01-02"), fmt.Sprintf("week %d of %d", w, y), date.Format("2006-01"), date.Format("2006")}
}

// slowPick asks of each time and each kind of span: is none ahead in the same
// span, and are fewer spans ahead than may be kept?
func slowPick(p api.Policy, times []int) ([]bool, api.Errno) {
	if err := slowCheck(p); err != api.OK {
		return nil, err
	}
	if err := slowTimes(times); err != api.OK {
		return nil, err
	}
	kept := make([]bool, len(times))
	ahead := [4]map[string]int{{}, {}, {}, {}}
	for i, minutes := range times {
		kept[i] = i < p.Last
		for kind, name := range spansOf(minutes) {
			most := [4]int{p.Days, p.Weeks, p.Months, p.Years}[kind]
			if ahead[kind][name] == 0 && len(ahead[kind]) < most {
				kept[i] = true
			}
			ahead[kind][name]++
		}
	}
	return kept, api.OK
}

func checkCheck(t *testing.T, p api.Policy) {
	t.Helper()
	if err, want := keep.Check(p), slowCheck(p); err != want {
		t.Fatalf("Check(%v) = %v, want %v", p, err, want)
	}
}

func checkPick(t *testing.T, p api.Policy, times []int) {
	t.Helper()
	kept, err := keep.Pick(p, times)
	want, wrong := slowPick(p, times)
	if err != wrong || !slices.Equal(kept, want) || err != api.OK && kept != nil {
		t.Fatalf("Pick(%v, %v) = %s, %v, want %s, %v", p, few(times), marks(kept), err, marks(want), wrong)
	}
}

// few are the first ones of a list.
func few(l []int) []int { return l[:min(len(l), 220)] }

// marks has an x of each time that is kept.
func marks(kept []bool) string {
	s := make([]byte, len(kept))
	for i, k := range kept {
		s[i] = '.'
		if k {
			s[i] = 'x'
		}
	}
	return string(s)
}
