package civil_test

import (
	"math"
	"strings"
	"testing"
	"unsafe"

	"lumberroom/api"
	"lumberroom/civil"
)

// odd has n bytes that show no order.
func odd(seed, n int) string {
	b := make([]byte, n)
	for i := range b {
		seed = (seed*1103515245 + 12345) % (1 << 31)
		b[i] = byte(seed >> 16)
	}
	return string(b)
}

// oddDate is of signs that show no order, of which most may be in a date.
func oddDate(seed int) string {
	const signs = "0123456789012-/x"
	s := []byte("2024-01-01")
	for i, c := range []byte(odd(seed, seed%len(s))) {
		s[(i*7+seed)%len(s)] = signs[c%16]
	}
	return string(s)
}

// checkAll: whatever comes, the calls answer what they should, the same each
// time.
func checkAll(t *testing.T, y, m, d int, s string) {
	t.Helper()
	for range 2 {
		checkDays(t, y, m, d)
		for _, n := range []int{y, m, d} {
			checkDay(t, n)
		}
		checkRead(t, s)
	}
}

func TestCallsAnswerAnything(t *testing.T) {
	numbers := []int{0, 1, -1, 2, 4, 12, 13, 28, 29, 30, 31, 32, 100, 400, 1900, 2000, 9999, 10000}
	for i := range 64 {
		numbers = append(numbers, 1<<i, 1<<i-1, -1<<i)
	}
	numbers = append(numbers, noDays...)
	numbers = append(numbers, math.MaxInt, math.MinInt, api.FirstDay, api.LastDay)
	for _, y := range numbers {
		for _, m := range numbers {
			checkDays(t, y, m, 1)
			checkDays(t, y, 1, m)
			checkDays(t, 2000, y, m)
		}
		checkDay(t, y)
	}
	for _, s := range append(append([]string{}, noTexts...), noDateTexts...) {
		checkAll(t, 2024, 2, 29, s)
	}
	for _, part := range []string{"0", "-", "2024-01-01", "2024-01-01\n", "\xff", "\x00"} {
		checkAll(t, 0, 0, 0, strings.Repeat(part, 1<<16))
	}
	for seed := range 20000 {
		checkAll(t, seed%10100, seed%14, seed%33, oddDate(seed))
		checkAll(t, -seed, seed*seed, seed*997, odd(seed, seed%20))
	}
}

func TestCallsKeepNothing(t *testing.T) {
	text, _ := civil.Text(11016)
	for seed := range 1000 {
		checkAll(t, seed*9, seed%13, seed%32, oddDate(seed))
	}
	again, err := civil.Text(11016)
	if text != "2000-02-29" || again != text || err != api.OK {
		t.Error("what was asked in between is to be seen in the answer")
	}
	checkAll(t, 2000, 2, 29, text)
}

// inMemory is s in memory that can be written to, with more behind it.
func inMemory(s string) (string, []byte) {
	memory := []byte(s + "-behind")
	return unsafe.String(unsafe.SliceData(memory), len(s)), memory
}

// A text that was changed is read anew.
func TestTextsAreNotChangedAndNotKept(t *testing.T) {
	for seed := range 2000 {
		s := oddDate(seed)
		text, memory := inMemory(s)
		checkRead(t, text)
		if string(memory) != s+"-behind" {
			t.Fatalf("the memory of %q was changed", s)
		}
		copy(memory, oddDate(seed+1))
		checkRead(t, text)
	}
}

// What is written over the memory of one answer is not to be seen in another.
func TestAnswersAreMemoryOfTheirOwn(t *testing.T) {
	for _, c := range someTexts {
		first, _ := civil.Text(c.n)
		second, _ := civil.Text(c.n)
		clear(unsafe.Slice(unsafe.StringData(first), len(first)))
		third, err := civil.Text(c.n)
		if second != c.s || third != c.s || err != api.OK {
			t.Errorf("texts of day %d share memory: %q, %q", c.n, second, third)
		}
	}
}

func FuzzDates(f *testing.F) {
	for _, c := range someDates {
		f.Add(c.y, c.m, c.d, "2024-02-29")
		f.Add(c.n, c.y, c.m, "1900-02-29")
	}
	for i, s := range noTexts {
		f.Add(i, i, i, s)
	}
	f.Fuzz(func(t *testing.T, y, m, d int, s string) {
		checkAll(t, y, m, d, s)
		checkAll(t, y%10001, m%14, d%33, s)
		checkAll(t, y%3000000, m%1000, d%720000, s)
	})
}
