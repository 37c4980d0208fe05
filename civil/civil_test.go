package civil_test

import (
	"hash/crc32"
	"math"
	"strconv"
	"testing"

	"lumberroom/api"
	"lumberroom/civil"
)

var someDates = []struct{ n, y, m, d int }{
	{0, 1970, 1, 1},
	{-1, 1969, 12, 31},
	{1, 1970, 1, 2},
	{30, 1970, 1, 31},
	{31, 1970, 2, 1},
	{58, 1970, 2, 28},
	{59, 1970, 3, 1},
	{364, 1970, 12, 31},
	{365, 1971, 1, 1},
	{11016, 2000, 2, 29},
	{11017, 2000, 3, 1},
	{10956, 1999, 12, 31},
	{10957, 2000, 1, 1},
	{11322, 2000, 12, 31},
	{11323, 2001, 1, 1},
	{-25509, 1900, 2, 28},
	{-25508, 1900, 3, 1},
	{19782, 2024, 2, 29},
	{20088, 2024, 12, 31},
	{20776, 2026, 11, 19},
	{-141428, 1582, 10, 14},
	{-719162, 1, 1, 1},
	{-719161, 1, 1, 2},
	{-718798, 1, 12, 31},
	{-718797, 2, 1, 1},
	{-718008, 4, 2, 29},
	{-573372, 400, 2, 29},
	{-573066, 400, 12, 31},
	{-573065, 401, 1, 1},
	{2932896, 9999, 12, 31},
	{2932532, 9999, 1, 1},
	{2932531, 9998, 12, 31},
}

var noDates = [][3]int{
	{1900, 2, 29}, {2100, 2, 29}, {100, 2, 29}, {2023, 2, 29}, {9999, 2, 29}, {1, 2, 29},
	{2000, 2, 30}, {2024, 2, 30}, {2024, 2, 31},
	{2024, 4, 31}, {2024, 6, 31}, {2024, 9, 31}, {2024, 11, 31},
	{2024, 1, 32}, {2024, 3, 32}, {2024, 5, 32}, {2024, 7, 32}, {2024, 8, 32}, {2024, 10, 32}, {2024, 12, 32},
	{2024, 1, 0}, {2024, 1, -1}, {2024, 12, 0}, {2024, 1, math.MinInt}, {2024, 1, math.MaxInt},
	{2024, 0, 1}, {2024, 13, 1}, {2024, -1, 1}, {2024, 0, 0}, {2024, math.MinInt, 1}, {2024, math.MaxInt, 1},
	{0, 1, 1}, {0, 12, 31}, {0, 2, 29}, {-1, 1, 1}, {-4, 2, 29}, {10000, 1, 1}, {10000, 2, 29},
	{math.MinInt, 1, 1}, {math.MaxInt, 1, 1}, {math.MinInt, math.MinInt, math.MinInt}, {math.MaxInt, math.MaxInt, math.MaxInt},
	{2024 + 1<<32, 1, 1}, {2024, 1 + 1<<32, 1}, {2024, 1, 1 + 1<<32},
	{2024 + 1<<16, 1, 1}, {2024, 257, 1}, {2024, 1, 257},
	{0, 0, 0},
}

var noDays = []int{
	api.FirstDay - 1, api.LastDay + 1, api.FirstDay - 2, api.LastDay + 2, api.FirstDay - 146097, api.LastDay + 146097,
	1 << 31, -1 << 31, 1 << 32, -1 << 32, 1<<32 + 11016, math.MaxInt, math.MinInt, math.MaxInt - 3, math.MinInt + 3,
}

func TestDays(t *testing.T) {
	for _, c := range someDates {
		if n, err := civil.Days(c.y, c.m, c.d); n != c.n || err != api.OK {
			t.Errorf("Days(%d, %d, %d) = %d, %v, want %d", c.y, c.m, c.d, n, err, c.n)
		}
	}
	for _, c := range noDates {
		if n, err := civil.Days(c[0], c[1], c[2]); n != 0 || err != api.ErrArg {
			t.Errorf("Days of %v = %d, %v, want 0, ErrArg", c, n, err)
		}
	}
}

func TestOK(t *testing.T) {
	for _, n := range []int{0, 1, -1, 11016, -719162, -719161, 2932896, 2932895} {
		if err := civil.OK(n); err != api.OK {
			t.Errorf("OK(%d) = %v", n, err)
		}
	}
	for _, n := range noDays {
		if err := civil.OK(n); err != api.ErrArg {
			t.Errorf("OK(%d) = %v, want ErrArg", n, err)
		}
	}
}

func TestDate(t *testing.T) {
	for _, c := range someDates {
		if y, m, d, err := civil.Date(c.n); y != c.y || m != c.m || d != c.d || err != api.OK {
			t.Errorf("Date(%d) = %d, %d, %d, %v, want %d, %d, %d", c.n, y, m, d, err, c.y, c.m, c.d)
		}
	}
	for _, n := range noDays {
		if y, m, d, err := civil.Date(n); y != 0 || m != 0 || d != 0 || err != api.ErrArg {
			t.Errorf("Date(%d) = %d, %d, %d, %v, want nothing, ErrArg", n, y, m, d, err)
		}
	}
}

// The checksums of this package's tests were worked out by another program.
func checkSum(t *testing.T, what string, all []byte, want uint32) {
	t.Helper()
	if sum := crc32.ChecksumIEEE(all); sum != want {
		t.Errorf("the checksum of %s is %08x, want %08x", what, sum, want)
	}
}

func TestDatesOfAllDays(t *testing.T) {
	var all []byte
	for n := api.FirstDay; n <= api.LastDay; n++ {
		y, m, d, _ := civil.Date(n)
		all = appendLine(all, n, y, m, d)
	}
	checkSum(t, "all dates", all, 0x845267a6)
}

// Also of what are no dates: years 0 and 10000, months 0 and 13, days 0 and 29
// to 32.
func TestDaysOfAllDates(t *testing.T) {
	var all []byte
	for y := range 10001 {
		for m := range 14 {
			for d := range 33 {
				n, err := civil.Days(y, m, d)
				all = appendDay(all, n, err)
			}
		}
	}
	checkSum(t, "all days", all, 0x1ecb8654)
}

func appendLine(all []byte, numbers ...int) []byte {
	for i, n := range numbers {
		if i > 0 {
			all = append(all, ' ')
		}
		all = strconv.AppendInt(all, int64(n), 10)
	}
	return append(all, '\n')
}

func appendDay(all []byte, n int, err api.Errno) []byte {
	if err != api.OK {
		return append(all, "no\n"...)
	}
	return appendLine(all, n)
}

// The calendar that is gone through day by day has its own edges where the
// chapter says.
func TestCalendarHasAllDays(t *testing.T) {
	b := calendar()
	if len(b.pages) != 2932896+719162+1 || b.zero != 719162 {
		t.Errorf("%d days, the first of January 1970 is the %d.", len(b.pages), b.zero)
	}
}

func TestEachDay(t *testing.T) {
	for n := api.FirstDay - 1000; n <= api.LastDay+1000; n++ {
		checkDay(t, n)
		y, m, d, err := civil.Date(n)
		if err != api.OK {
			continue
		}
		if k, err := civil.Days(y, m, d); k != n || err != api.OK {
			t.Errorf("Days(%d, %d, %d) = %d, %v, want %d", y, m, d, k, err, n)
		}
	}
}
