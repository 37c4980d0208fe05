package huff_test

import (
	"math"
	"slices"
	"testing"

	"lumberroom/api"
	"lumberroom/huff"
)

// right: l has 1 to 256 numbers from 0 to most.
func right(l []int, most int) bool {
	return len(l) > 0 && len(l) < 257 && slices.Min(l) >= 0 && slices.Max(l) <= most
}

// slowKraft sums by taking the numbers of one kind together.
func slowKraft(l []int) int {
	sum, part := 0, full
	for n := 1; n <= 48; n++ {
		part /= 2
		for _, m := range l {
			if m == n {
				sum += part
			}
		}
	}
	return sum
}

// checkCalls: whatever is handed in, the calls answer what they should, the
// same each time, and leave the list as it was.
func checkCalls(t *testing.T, l []int) {
	t.Helper()
	kept := slices.Clone(l)
	var lengths, codes []int
	sum := 0
	lengthsErr, kraftErr, codesErr := api.ErrArg, api.ErrArg, api.ErrArg
	if right(kept, 1<<20) {
		lengths, lengthsErr = slowLengths(kept), api.OK
	}
	if right(kept, 48) {
		sum, kraftErr, codesErr = slowKraft(kept), api.OK, api.ErrForm
		if sum <= full {
			codes, codesErr = slowCodes(kept), api.OK
		}
	}
	for range 2 {
		if got, err := huff.Lengths(l); !slices.Equal(got, lengths) || err != lengthsErr {
			t.Errorf("Lengths(%v) = %v, %v, want %v, %v", kept, got, err, lengths, lengthsErr)
		}
		if got, err := huff.Kraft(l); got != sum || err != kraftErr {
			t.Errorf("Kraft(%v) = %v, %v, want %v, %v", kept, got, err, sum, kraftErr)
		}
		if got, err := huff.Codes(l); !slices.Equal(got, codes) || err != codesErr {
			t.Errorf("Codes(%v) = %v, %v, want %v, %v", kept, got, err, codes, codesErr)
		}
	}
	if !slices.Equal(l, kept) {
		t.Errorf("a list was changed: %v, now %v", kept, l)
	}
}

func TestCallsAnswerAnything(t *testing.T) {
	wild := []int{math.MinInt, -1 << 32, -49, -1, 0, 1, 2, 47, 48, 49, 1<<20 - 1, 1 << 20, 1<<20 + 1, 1 << 32, math.MaxInt}
	checkCalls(t, nil)
	checkCalls(t, []int{})
	for _, a := range wild {
		for _, b := range wild {
			checkCalls(t, []int{a, b})
			checkCalls(t, []int{1, a, 2, b, 2})
			checkCalls(t, list([]int{a}, many(254, 9), []int{b}))
		}
		for _, n := range []int{1, 2, 3, 255, 256, 257, 1000} {
			checkCalls(t, many(n, a))
		}
	}
	for _, l := range slices.Concat(someWeights(), someLengths(), wrongLists(48), wrongLists(1<<20)) {
		checkCalls(t, l)
	}
}

func TestCallsKeepNothing(t *testing.T) {
	f := odd(3, 256, 1000)
	lengths, _ := huff.Lengths(f)
	codes, _ := huff.Codes(lengths)
	keptLengths, keptCodes := slices.Clone(lengths), slices.Clone(codes)
	for _, l := range slices.Concat(someWeights(), someLengths(), wrongLists(48)) {
		huff.Lengths(l)
		huff.Kraft(l)
		huff.Codes(l)
	}
	again, _ := huff.Lengths(f)
	codesAgain, _ := huff.Codes(lengths)
	if !slices.Equal(lengths, keptLengths) || !slices.Equal(codes, keptCodes) {
		t.Error("an answer was changed by what was asked behind it")
	}
	if !slices.Equal(again, keptLengths) || !slices.Equal(codesAgain, keptCodes) {
		t.Error("what was asked in between is to be seen in the answer")
	}
}

// Not even the spare memory of a list that is handed in is written to.
func TestListsAreNotChangedAndNotKept(t *testing.T) {
	const mark = 7
	for _, l := range slices.Concat(someWeights(), someLengths()) {
		memory := list(l, many(300, mark))
		handed := memory[:len(l)]
		lengths, _ := huff.Lengths(handed)
		codes, _ := huff.Codes(handed)
		huff.Kraft(handed)
		if !slices.Equal(memory, list(l, many(300, mark))) {
			t.Fatalf("the memory of %v was changed", l)
		}
		keptLengths, keptCodes := slices.Clone(lengths), slices.Clone(codes)
		clear(memory)
		if !slices.Equal(lengths, keptLengths) || !slices.Equal(codes, keptCodes) {
			t.Errorf("%v: an answer changes with the list's memory", l)
		}
		for i := range lengths[:cap(lengths)] {
			lengths[:cap(lengths)][i] = mark
		}
		for i := range codes[:cap(codes)] {
			codes[:cap(codes)][i] = mark
		}
		if slices.Contains(memory, mark) {
			t.Errorf("%v: the list's memory changes with an answer", l)
		}
	}
}

// Not even the spare memory of an answered list is another one's.
func TestAnsweredListsAreMemoryOfTheirOwn(t *testing.T) {
	for _, l := range slices.Concat(someWeights(), someLengths()) {
		for _, ask := range []func() []int{
			func() []int { got, _ := huff.Lengths(l); return got },
			func() []int { got, _ := huff.Codes(l); return got },
		} {
			first := ask()
			want := slices.Clone(first)
			second := ask()
			for i := range second[:cap(second)] {
				second[:cap(second)][i] = -9
			}
			if third := ask(); !slices.Equal(first, want) || !slices.Equal(third, want) {
				t.Errorf("%v: two answers share a list's memory", l)
			}
		}
	}
}

func FuzzWeights(f *testing.F) {
	f.Add([]byte("\x05\x01\x01\x00"), uint8(0), 0)
	f.Add([]byte("abracadabra"), uint8(12), 1<<20)
	f.Fuzz(func(t *testing.T, b []byte, shift uint8, wild int) {
		var l []int
		for i, c := range b {
			l = append(l, int(c)<<(int(shift)*i%13))
		}
		checkCalls(t, l)
		checkCalls(t, append(l, wild))
	})
}

func FuzzLengths(f *testing.F) {
	f.Add([]byte("\x01\x02\x02\x00"))
	f.Add([]byte("\x01\x01\x01"))
	f.Add([]byte("\x30\x01\x02\x09"))
	f.Fuzz(func(t *testing.T, b []byte) {
		var low, high []int
		for _, c := range b {
			low = append(low, int(c)%50)
			high = append(high, 8+int(c)%41)
		}
		checkCalls(t, low)
		checkCalls(t, high)
	})
}
