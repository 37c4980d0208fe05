package keep_test

import (
	"hash/crc32"
	"math"
	"slices"
	"testing"
	"time"

	"lumberroom/api"
	"lumberroom/keep"
)

// at is the time of a date, as "2006-01-02 15:04".
func at(t *testing.T, date string) int {
	t.Helper()
	d, err := time.Parse("2006-01-02 15:04", date)
	if err != nil {
		t.Fatal(err)
	}
	return int(d.Unix() / 60)
}

func days(n int) api.Policy   { return api.Policy{Days: n} }
func weeks(n int) api.Policy  { return api.Policy{Weeks: n} }
func months(n int) api.Policy { return api.Policy{Months: n} }
func years(n int) api.Policy  { return api.Policy{Years: n} }
func last(n int) api.Policy   { return api.Policy{Last: n} }

type picked struct {
	p    api.Policy
	want string
}

var someDates = []struct {
	what  string
	dates []string
	picks []picked
}{
	{"one time", []string{"2026-11-19 10:30"}, []picked{
		{api.Policy{}, "."}, {last(1), "x"}, {days(1), "x"}, {weeks(1), "x"}, {months(1), "x"}, {years(1), "x"},
		{policyOf([5]int{100, 100, 100, 100, 100}), "x"},
	}},
	{"two times in one day", []string{"2026-11-19 10:30", "2026-11-19 10:29"}, []picked{
		{api.Policy{}, ".."}, {last(1), "x."}, {last(2), "xx"}, {last(3), "xx"}, {last(100), "xx"},
		{days(1), "x."}, {days(2), "x."}, {weeks(2), "x."}, {months(2), "x."}, {years(2), "x."},
		{policyOf([5]int{0, 100, 100, 100, 100}), "x."}, {policyOf([5]int{1, 100, 100, 100, 100}), "x."},
	}},
	{"equal times", []string{"2026-11-19 10:30", "2026-11-19 10:30", "2026-11-19 10:30", "2026-11-18 10:30", "2026-11-18 10:30"}, []picked{
		{last(2), "xx..."}, {last(4), "xxxx."}, {days(1), "x...."}, {days(2), "x..x."}, {days(3), "x..x."}, {weeks(9), "x...."},
		{policyOf([5]int{2, 2, 0, 0, 0}), "xx.x."},
	}},
	{"the edges of a day", []string{"2026-11-20 00:00", "2026-11-19 23:59", "2026-11-19 00:00", "2026-11-18 23:59", "2026-11-18 00:00"}, []picked{
		{days(1), "x...."}, {days(2), "xx..."}, {days(3), "xx.x."}, {days(4), "xx.x."},
	}},
	{"days without times", []string{"2026-11-19 10:30", "2026-11-10 10:30", "2026-10-01 10:30", "2025-01-01 10:30", "1970-01-01 00:00"}, []picked{
		{days(1), "x...."}, {days(2), "xx..."}, {days(3), "xxx.."}, {days(4), "xxxx."}, {days(5), "xxxxx"}, {days(6), "xxxxx"},
		{weeks(2), "xx..."}, {weeks(5), "xxxxx"}, {months(2), "x.x.."}, {months(4), "x.xxx"}, {years(2), "x..x."}, {years(3), "x..xx"},
	}},
	{"the edges of a week", []string{"2026-11-16 00:00", "2026-11-15 23:59", "2026-11-09 00:00", "2026-11-08 23:59", "2026-11-02 00:00"}, []picked{
		{weeks(1), "x...."}, {weeks(2), "xx..."}, {weeks(3), "xx.x."}, {weeks(4), "xx.x."}, {months(5), "x...."},
	}},
	{"a week in two years, and one that is in the year behind", []string{
		"2021-01-04 00:00", "2021-01-03 23:59", "2021-01-01 00:00", "2020-12-31 23:59", "2020-12-28 00:00", "2020-12-27 23:59", "2019-01-06 12:00", "2018-12-31 12:00", "2018-12-30 12:00",
	}, []picked{
		{weeks(1), "x........"}, {weeks(2), "xx......."}, {weeks(3), "xx...x..."}, {weeks(4), "xx...xx.."}, {weeks(5), "xx...xx.x"}, {weeks(6), "xx...xx.x"},
		{months(2), "x..x....."}, {months(3), "x..x..x.."}, {months(4), "x..x..xx."}, {years(2), "x..x....."}, {years(3), "x..x..x.."}, {years(4), "x..x..xx."},
	}},
	{"weeks of one number", []string{"2021-01-06 12:00", "2020-01-01 12:00", "2019-01-02 12:00", "2018-12-31 12:00", "2018-01-01 12:00"}, []picked{
		{weeks(1), "x...."}, {weeks(3), "xxx.."}, {weeks(4), "xxx.x"}, {weeks(5), "xxx.x"},
	}},
	{"weeks 52 and 1 of one year", []string{"2024-12-31 12:00", "2024-12-29 12:00", "2024-01-07 12:00", "2024-01-01 12:00", "2023-12-31 12:00"}, []picked{
		{weeks(2), "xx..."}, {weeks(3), "xxx.."}, {weeks(4), "xxx.x"}, {years(2), "x...x"},
	}},
	{"the edges of a month", []string{"2024-03-01 00:00", "2024-02-29 23:59", "2024-02-01 00:00", "2024-01-31 23:59", "2024-01-01 00:00", "2023-12-31 23:59"}, []picked{
		{months(1), "x....."}, {months(2), "xx...."}, {months(3), "xx.x.."}, {months(4), "xx.x.x"}, {months(5), "xx.x.x"}, {years(9), "x....x"},
	}},
	{"months of one number", []string{"2026-11-30 10:30", "2025-11-30 10:30", "2024-11-30 10:30", "2024-11-01 10:30"}, []picked{
		{months(1), "x..."}, {months(2), "xx.."}, {months(3), "xxx."}, {months(4), "xxx."},
	}},
	{"the edges of a year", []string{"2027-01-01 00:00", "2026-12-31 23:59", "2026-01-01 00:00", "2025-12-31 23:59", "2025-01-01 00:00"}, []picked{
		{years(1), "x...."}, {years(2), "xx..."}, {years(3), "xx.x."}, {years(4), "xx.x."},
	}},
	{"what is kept twice counts for both", []string{"2026-11-19 10:30", "2026-11-19 10:00", "2026-11-18 10:30", "2026-11-12 10:30", "2026-10-12 10:30", "2025-10-12 10:30"}, []picked{
		{policyOf([5]int{1, 1, 1, 1, 1}), "x....."}, {policyOf([5]int{2, 1, 1, 1, 1}), "xx...."}, {policyOf([5]int{0, 2, 1, 1, 1}), "x.x..."},
		{policyOf([5]int{0, 1, 2, 1, 1}), "x..x.."}, {policyOf([5]int{0, 1, 1, 2, 1}), "x...x."}, {policyOf([5]int{0, 1, 1, 1, 2}), "x....x"},
		{policyOf([5]int{2, 2, 2, 2, 2}), "xxxxxx"}, {policyOf([5]int{0, 2, 2, 2, 2}), "x.xxxx"}, {policyOf([5]int{3, 3, 0, 0, 0}), "xxxx.."},
	}},
	{"the first times and the last ones", []string{"9999-12-31 23:59", "9999-12-31 00:00", "9999-12-27 00:00", "9999-12-26 23:59", "1970-01-02 00:00", "1970-01-01 23:59", "1970-01-01 00:00"}, []picked{
		{days(1), "x......"}, {days(9), "x.xxxx."}, {weeks(9), "x..xx.."}, {months(9), "x...x.."}, {years(9), "x...x.."}, {last(6), "xxxxxx."},
	}},
}

func TestPick(t *testing.T) {
	for _, c := range someDates {
		var times []int
		for _, date := range c.dates {
			times = append(times, at(t, date))
		}
		for _, x := range c.picks {
			if kept, err := keep.Pick(x.p, times); marks(kept) != x.want || err != api.OK {
				t.Errorf("%s: Pick of %v = %s, %v, want %s", c.what, x.p, marks(kept), err, x.want)
			}
			checkPick(t, x.p, times)
		}
	}
}

func TestPickOfNoTimes(t *testing.T) {
	for _, times := range [][]int{nil, {}, make([]int, 0, 9)} {
		for _, p := range []api.Policy{{}, last(100), policyOf([5]int{1, 2, 3, 4, 5})} {
			if kept, err := keep.Pick(p, times); len(kept) != 0 || err != api.OK {
				t.Errorf("Pick of no times = %v, %v", kept, err)
			}
		}
	}
}

// each is the time in the middle of each of so many spans of one length, the
// newest one first.
func each(count, length int) []int {
	var times []int
	for i := range count {
		times = append(times, (count-i)*length+length/2)
	}
	return times
}

// ofKind has one number in its place.
func ofKind(kind, n int) api.Policy {
	var p api.Policy
	*fields(&p)[kind] = n
	return p
}

// As many as there may be, of each kind alone.
func TestPickOfManySpans(t *testing.T) {
	const day, year = 1440, 366 * 1440
	for _, count := range []int{1, 2, 99, 100, 101, 199, 200} {
		for kind, length := range []int{1, day, 7 * day, 31 * day, year} {
			for n := range 101 {
				kept, err := keep.Pick(ofKind(kind, n), each(count, length))
				if err != api.OK || len(kept) != count {
					t.Fatalf("%d of kind %d of %d times: %d answers, %v", n, kind, count, len(kept), err)
				}
				for i, k := range kept {
					if k != (i < n) {
						t.Fatalf("%d of kind %d of %d times: %s", n, kind, count, marks(kept))
					}
				}
			}
		}
	}
}

func TestPickOfWrongTimes(t *testing.T) {
	const end = 4223371679
	long := each(201, 1440)
	for _, c := range []struct {
		what  string
		times []int
		want  api.Errno
	}{
		{"the greatest time", []int{end}, api.OK},
		{"one more", []int{end + 1}, api.ErrArg},
		{"the least time", []int{0}, api.OK},
		{"one less", []int{-1}, api.ErrArg},
		{"all times", []int{end, 0}, api.OK},
		{"all times, and one less", []int{end, 0, -1}, api.ErrArg},
		{"one more ahead of all times", []int{end + 1, end, 0}, api.ErrArg},
		{"very great", []int{math.MaxInt}, api.ErrArg},
		{"very small", []int{math.MinInt}, api.ErrArg},
		{"5 to 32 bits", []int{1<<32 + 5}, api.ErrArg},
		{"5 to 63 bits", []int{math.MinInt + 5}, api.ErrArg},
		{"equal ones", []int{7, 7, 7}, api.OK},
		{"one above the one ahead", []int{7, 8}, api.ErrForm},
		{"far above the one ahead", []int{0, end}, api.ErrForm},
		{"later above the one ahead", []int{9, 8, 7, 6, 7}, api.ErrForm},
		{"above the one ahead in one day", []int{1440*3 + 9, 1440*2 + 8, 1440*2 + 9}, api.ErrForm},
		{"above the one ahead, not above the first", []int{9, 1, 5}, api.ErrForm},
		{"above the one ahead, and beyond all times", []int{7, end + 1}, api.ErrArg},
		{"above a wrong one", []int{-1, 0}, api.ErrArg},
		{"wrong order, then a wrong time", []int{1, 2, -1}, api.ErrForm},
		{"wrong order, then a time that is too great", []int{1, 2, end + 1}, api.ErrForm},
		{"a wrong time, then wrong order", []int{5, -1, 9}, api.ErrArg},
		{"200 times", long[1:], api.OK},
		{"201 times", long, api.ErrLarge},
		{"201 equal times", make([]int, 201), api.ErrLarge},
		{"201 wrong times", slices.Repeat([]int{-1}, 201), api.ErrLarge},
		{"201 times in a wrong order", slices.Repeat([]int{3, 4, 5}, 67), api.ErrLarge},
		{"200 times, the last one wrong", append(long[2:], -1), api.ErrArg},
		{"200 times, the last one above the one ahead", append(slices.Clone(long[2:]), long[200]+1), api.ErrForm},
	} {
		for _, p := range []api.Policy{{}, {Last: 1}, policyOf([5]int{1, 2, 3, 4, 5}), policyOf([5]int{100, 100, 100, 100, 100})} {
			if kept, err := keep.Pick(p, c.times); err != c.want || err != api.OK && kept != nil {
				t.Errorf("%s: Pick of %v = %v, %v, want %v", c.what, p, marks(kept), err, c.want)
			}
			checkPick(t, p, c.times)
		}
	}
}

// What is wrong with the policy is told ahead of what is wrong with the times.
func TestPickOfWrongPolicies(t *testing.T) {
	for _, times := range [][]int{nil, {5}, {5, 6}, {-1}, {math.MaxInt}, make([]int, 200), make([]int, 201), slices.Repeat([]int{5, 6}, 150)} {
		for kind := range 5 {
			for _, n := range noNumbers {
				if kept, err := keep.Pick(ofKind(kind, n), times); kept != nil || err != api.ErrArg {
					t.Errorf("Pick of %v, %d times: %v, %v, want ErrArg", ofKind(kind, n), len(times), kept, err)
				}
			}
		}
	}
}

// The checksums of this package's tests were worked out by another program.
func checkSum(t *testing.T, what string, all []byte, want uint32) {
	t.Helper()
	if sum := crc32.ChecksumIEEE(all); sum != want {
		t.Errorf("the checksum of %s is %08x, want %08x", what, sum, want)
	}
}

// All days that there are, 200 at a time.
func TestSpansOfAllDays(t *testing.T) {
	for _, c := range []struct {
		what string
		p    api.Policy
		want uint32
	}{
		{"weeks", weeks(100), 0xef50ce9d},
		{"months", months(100), 0x148a9a34},
		{"years", years(100), 0xe49a1408},
		{"days", days(100), 0x5b7b5e4e},
		{"all of them", policyOf([5]int{3, 5, 7, 4, 100}), 0xec93e739},
	} {
		var all []byte
		for day := api.LastDay; day >= 0; day -= 200 {
			var times []int
			for n := day; n >= 0 && n > day-200; n-- {
				times = append(times, n*1440+n%1440)
			}
			kept, err := keep.Pick(c.p, times)
			if err != api.OK {
				t.Fatalf("%s of the days up to %d: %v", c.what, day, err)
			}
			all = append(all, marks(kept)+"\n"...)
		}
		checkSum(t, c.what, all, c.want)
	}
}

func TestPickOfOddTimes(t *testing.T) {
	var all []byte
	for seed := range 5000 {
		kept, err := keep.Pick(oddPolicy(seed), oddTimes(seed))
		if err != api.OK {
			t.Fatalf("seed %d: %v", seed, err)
		}
		all = append(all, marks(kept)+"\n"...)
	}
	checkSum(t, "what is kept of odd times", all, 0x54d8b472)
}

// A time that is kept stays so when more is kept.
func TestMoreKeepsMore(t *testing.T) {
	for seed := range 300 {
		p, times := oddPolicy(seed), oddTimes(seed)
		kept, _ := keep.Pick(p, times)
		for kind := range 5 {
			more := p
			*fields(&more)[kind] = min(100, *fields(&p)[kind]+1+seed%3)
			keptOfMore, err := keep.Pick(more, times)
			if err != api.OK {
				t.Fatal(err)
			}
			for i, k := range kept {
				if k && !keptOfMore[i] {
					t.Fatalf("seed %d: %v keeps the %d. time, %v does not", seed, p, i, more)
				}
			}
		}
	}
}
