package keep_test

import (
	"math"
	"slices"
	"testing"

	"lumberroom/api"
	"lumberroom/keep"
)

// next is a number up to 2^23 that shows no order.
func next(seed *int) int {
	*seed = (*seed*1103515245 + 12345) % (1 << 31)
	return *seed >> 8
}

// oddTimes are right times, in gaps of many lengths.
func oddTimes(seed int) []int {
	seed = seed*7919 + 1
	count := next(&seed) % 201
	now := next(&seed) * 503 % (api.MaxTime + 1)
	var times []int
	for len(times) < count && now >= 0 {
		times = append(times, now)
		widths := [...]int{1, 3, 1440, 4000, 10080, 20160, 60000, 600000}
		width := widths[next(&seed)%8]
		now -= next(&seed) % width
	}
	return times
}

func oddPolicy(seed int) api.Policy {
	seed = seed*104729 + 1
	var n [5]int
	for i := range n {
		most := [...]int{1, 3, 10, 101}[next(&seed)%4]
		n[i] = next(&seed) % most
	}
	return policyOf(n)
}

// checkAll: whatever comes, the calls answer what they should, the same each
// time, and leave the list and its spare memory as they were.
func checkAll(t *testing.T, p api.Policy, times []int) {
	t.Helper()
	was := slices.Clone(times[:cap(times)])
	for range 2 {
		checkCheck(t, p)
		checkPick(t, p, times)
	}
	if !slices.Equal(times[:cap(times)], was) {
		t.Fatalf("a list of %d times was changed", len(times))
	}
}

func TestCallsAnswerAnything(t *testing.T) {
	wild := []int{0, 1, 5, 1439, 1440, 1441, 4223371679, 4223371680}
	for i := range 64 {
		wild = append(wild, 1<<i, 1<<i-1, -1<<i)
	}
	wild = append(wild, noNumbers...)
	for _, n := range wild {
		for kind := range 5 {
			checkAll(t, ofKind(kind, n), []int{5, 4})
		}
		for _, m := range wild {
			checkAll(t, last(1), []int{n, m})
			checkAll(t, weeks(1), []int{api.MaxTime, n, m, 0})
			checkAll(t, policyOf([5]int{n, m, n, m, n}), []int{m, n})
		}
	}
	for _, count := range []int{0, 1, 199, 200, 201, 1 << 16, 1 << 20} {
		for _, n := range []int{0, -1, api.MaxTime, math.MaxInt, math.MinInt} {
			checkAll(t, policyOf([5]int{100, 100, 100, 100, 100}), slices.Repeat([]int{n}, count))
			checkAll(t, ofKind(count%5, 101), slices.Repeat([]int{n}, count))
		}
	}
	for seed := range 2000 {
		times := oddTimes(seed)
		checkAll(t, oddPolicy(seed), times)
		slices.Reverse(times)
		checkAll(t, oddPolicy(seed), times)
	}
}

func TestCallsKeepNothing(t *testing.T) {
	p, times := oddPolicy(11), oddTimes(11)
	kept, _ := keep.Pick(p, times)
	was := slices.Clone(kept)
	for seed := range 1000 {
		keep.Check(oddPolicy(seed))
		keep.Pick(oddPolicy(seed), oddTimes(seed))
		keep.Pick(p, oddTimes(seed))
		keep.Pick(oddPolicy(seed), times)
	}
	if !slices.Equal(kept, was) {
		t.Error("an answer was changed by what was asked behind it")
	}
	if again, err := keep.Pick(p, times); !slices.Equal(again, was) || err != api.OK {
		t.Error("what was asked in between is to be seen in the answer")
	}
}

// The list that was handed in may be written over, and so may another answer,
// spare memory included.
func TestListsAreMemoryOfTheirOwn(t *testing.T) {
	for seed := range 1000 {
		p, right := oddPolicy(seed), oddTimes(seed)
		times := append(make([]int, 0, len(right)+5), right...)
		kept, err := keep.Pick(p, times)
		another, _ := keep.Pick(p, times)
		if !slices.Equal(times[:cap(times)], append(slices.Clone(right), 0, 0, 0, 0, 0)) {
			t.Fatalf("seed %d: the times were changed", seed)
		}
		overwrite(another, seed%2 == 0)
		overwrite(times, -1)
		if want, _ := slowPick(p, right); !slices.Equal(kept, want) || err != api.OK {
			t.Fatalf("seed %d: what is kept changes with another list", seed)
		}
		checkPick(t, p, right)
	}
}

// overwrite changes a list and its spare memory.
func overwrite[T any](l []T, with T) {
	for i := range l[:cap(l)] {
		l[:cap(l)][i] = with
	}
}

// A list that was changed is gone through anew.
func TestListsAreNotRemembered(t *testing.T) {
	times := each(60, 5000)
	for i := range times {
		for _, change := range []int{-1, 1, -4999, 4999, -5001, 5001, math.MinInt} {
			times[i] += change
			checkAll(t, policyOf([5]int{i % 3, i % 50, i % 30, i % 5, i % 2}), times)
			times[i] -= change
		}
	}
}

// cutUp are times of 3 bytes each: the first byte tells how long the gap is,
// as minutes, days or months, the others how many of these.
func cutUp(from int, s string) []int {
	var times []int
	for ; len(s) >= 3; s = s[3:] {
		width := [...]int{1, 1440, 10080, 43200, -1, 720, 1439, 1}[s[0]%8]
		from -= width * (int(s[1]) * int(s[2]) >> (s[0] >> 4))
		times = append(times, from)
	}
	return times
}

func FuzzTimes(f *testing.F) {
	f.Add(1, 2, 3, 4, 5, api.MaxTime, "\x00ab\x01cd\x02ef\x03gh")
	f.Add(0, 0, 7, 0, 0, 29_000_000, "\x41ab\x31cd\x51ef\x51gh\x51gh\x51gh")
	f.Add(100, 100, 100, 100, 100, 0, "")
	f.Add(-1, 101, 0, 0, 0, 5, "\x04ab")
	f.Fuzz(func(t *testing.T, a, b, c, d, e, from int, s string) {
		times := cutUp(from, s)
		checkAll(t, policyOf([5]int{a, b, c, d, e}), times)
		checkAll(t, policyOf([5]int{a & 127, b & 127, c & 63, d & 31, e & 15}), times)
		times = cutUp(from&(1<<32-1), s)
		checkAll(t, policyOf([5]int{a & 3, b & 31, c & 15, d & 7, e & 3}), times)
	})
}
