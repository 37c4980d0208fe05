package chunk_test

import (
	"math"
	"slices"
	"strings"
	"testing"
	"unsafe"

	"lumberroom/api"
	"lumberroom/chunk"
)

// checkCalls: whatever is handed in, the calls answer, the same each time, and
// as one they tell of.
func checkCalls(t *testing.T, c api.Cut, held, more string, most int) {
	t.Helper()
	s := held + more
	l, err := chunk.Cut(c, s)
	ruled, left, feedErr := chunk.Feed(c, held, more)
	want := chunk.Check(c)
	if want == api.OK && len(s) > api.MaxFile {
		want = api.ErrLarge
	}
	if err != want || feedErr != want {
		t.Fatalf("%v, %d and %d bytes: %v, %v, want %v", c, len(held), len(more), err, feedErr, want)
	}
	if want != api.OK && (l != nil || ruled != nil || left != "") {
		t.Errorf("%v, %d and %d bytes: something is told beside %v", c, len(held), len(more), err)
	}
	if want == api.OK {
		slow, rest := slowCut(c, s)
		if !slices.Equal(l, withLeft(slow, rest)) || !slices.Equal(ruled, slow) || left != rest {
			t.Errorf("%v, %d and %d bytes: pieces of %v, %v and %d", c, len(held), len(more), lengths(l), lengths(ruled), len(left))
		}
	}
	places, each := told(c, s, math.MaxInt)
	if !slices.Equal(each, l) || !slices.Equal(places, begins(l)) {
		t.Errorf("%v, %.20q: Each tells %v at %v, Cut %v", c, s, lengths(each), places, lengths(l))
	}
	checkUntil(t, c, s, most, l)
	again, e := chunk.Cut(c, s)
	ruledAgain, leftAgain, feedE := chunk.Feed(c, held, more)
	if !slices.Equal(again, l) || e != err || !slices.Equal(ruledAgain, ruled) || leftAgain != left || feedE != feedErr {
		t.Errorf("%v, %.20q, %.20q was answered otherwise the second time", c, held, more)
	}
}

func checkUntil(t *testing.T, c api.Cut, s string, most int, pieces []string) {
	t.Helper()
	want := 0
	for _, p := range pieces {
		if want+len(p) > most {
			break
		}
		want += len(p)
	}
	for range 2 {
		if got, n := chunk.Until(c, s, most); got != s[:want] || n != want {
			t.Errorf("Until(%v, %.20q, %d) = %d bytes, %d, want %d", c, s, most, len(got), n, want)
		}
	}
}

func checkFixed(t *testing.T, n int, s string) {
	t.Helper()
	l, err := chunk.Fixed(n, s)
	want := api.OK
	if n < 1 || n > api.MaxPiece {
		want = api.ErrArg
	} else if len(s) > api.MaxFile {
		want = api.ErrLarge
	}
	if err != want || want != api.OK && l != nil || want == api.OK && strings.Join(l, "") != s {
		t.Errorf("Fixed(%d, %.20q) = %.80q, %v, want %v", n, s, l, err, want)
	}
	if again, e := chunk.Fixed(n, s); !slices.Equal(again, l) || e != err {
		t.Errorf("Fixed(%d, %.20q) was answered otherwise the second time", n, s)
	}
}

func TestCallsAnswerAnything(t *testing.T) {
	wild := []int{math.MinInt, -1 << 32, -1, 0, 1, 12, 13, 16, 63, 64, 1024, 1025, 1 << 32, math.MaxInt}
	for _, a := range wild {
		for _, b := range wild {
			for _, bits := range wild {
				checkCalls(t, api.Cut{Min: a, Max: b, Bits: bits}, "some text", " and more of it", bits)
			}
		}
		for _, s := range append(someTexts(), zeros(4097), odd(1, 1<<16)) {
			checkFixed(t, a, s)
			checkCalls(t, rightCuts[3], s, "", a)
			checkCalls(t, rightCuts[5], "", s, a)
			checkCalls(t, wrongCuts[1], s, s, a)
		}
	}
}

func TestCallsKeepNothing(t *testing.T) {
	c := api.Cut{Min: 16, Max: 64, Bits: 3}
	s := odd(1, 300)
	each := chunk.Each(c, s)
	l, _ := chunk.Cut(c, s)
	ruled, left, _ := chunk.Feed(c, s[:100], s[100:])
	fixed, _ := chunk.Fixed(7, s)
	for i, other := range rightCuts {
		chunk.Cut(other, odd(i, 1000))
		chunk.Feed(other, odd(i, 100), odd(i, 200))
		chunk.Fixed(i, odd(i, 1000))
		chunk.Until(other, odd(i, 1000), 500)
		for range chunk.Each(other, odd(i, 1000)) {
		}
	}
	for i, other := range wrongCuts {
		chunk.Cut(other, odd(i, 1000))
		chunk.Feed(other, odd(i, 100), odd(i, 200))
	}
	n := 0
	for _, p := range each {
		if p != l[n] {
			t.Errorf("what was asked in between is to be seen in what Each tells: %q", p)
		}
		n++
	}
	again, _ := chunk.Cut(c, s)
	ruledAgain, leftAgain, _ := chunk.Feed(c, s[:100], s[100:])
	fixedAgain, _ := chunk.Fixed(7, s)
	if n != len(l) || !slices.Equal(again, l) || !slices.Equal(ruledAgain, ruled) || leftAgain != left || !slices.Equal(fixedAgain, fixed) {
		t.Error("what was asked in between is to be seen in the answer")
	}
}

// inMemory is s in memory that can be written to, with more behind it.
func inMemory(s string) (string, []byte) {
	memory := []byte(s + "behind it")
	return unsafe.String(unsafe.SliceData(memory), len(s)), memory
}

func TestTextsAreNotChangedAndNotKept(t *testing.T) {
	for _, s := range someTexts() {
		for _, c := range rightCuts {
			want := withLeft(slowCut(c, s))
			text, memory := inMemory(s)
			cut, _ := chunk.Cut(c, text)
			ahead, left, _ := chunk.Feed(c, text, "")
			behind, rest, _ := chunk.Feed(c, "", text)
			fixed, _ := chunk.Fixed(16, text)
			joined, _ := chunk.Until(c, text, math.MaxInt)
			each := chunk.Each(c, text)
			var pieces []string
			for _, p := range each {
				pieces = append(pieces, p)
			}
			if string(memory) != s+"behind it" {
				t.Fatalf("%v: the memory of %.20q was changed", c, s)
			}
			clear(memory)
			for i, l := range [][]string{cut, withLeft(ahead, left), withLeft(behind, rest), pieces} {
				if !slices.Equal(l, want) {
					t.Errorf("%v, %.20q: answer %d shares the text's memory", c, s, i)
				}
			}
			if strings.Join(fixed, "") != s || joined != s {
				t.Errorf("%v, %.20q: Fixed or Until shares the text's memory", c, s)
			}
			n := 0
			for _, p := range each {
				if p != want[n] {
					t.Errorf("%v, %.20q: what Each answers keeps the text's memory", c, s)
				}
				n++
			}
		}
	}
}

// spans are the places in memory of texts that are not empty.
func spans(l []string) [][2]uintptr {
	var all [][2]uintptr
	for _, p := range l {
		if p != "" {
			at := uintptr(unsafe.Pointer(unsafe.StringData(p)))
			all = append(all, [2]uintptr{at, at + uintptr(len(p))})
		}
	}
	slices.SortFunc(all, func(a, b [2]uintptr) int { return int(a[0]) - int(b[0]) })
	return all
}

func TestAnswersAreMemoryOfTheirOwn(t *testing.T) {
	for _, s := range someTexts() {
		for _, c := range rightCuts {
			all := []string{s}
			each := chunk.Each(c, s)
			for range 2 {
				cut, _ := chunk.Cut(c, s)
				fixed, _ := chunk.Fixed(c.Min, s)
				ruled, left, _ := chunk.Feed(c, s[:len(s)/2], s[len(s)/2:])
				joined, _ := chunk.Until(c, s, math.MaxInt)
				all = slices.Concat(all, cut, fixed, ruled, []string{left, joined})
				for _, p := range each {
					all = append(all, p)
				}
			}
			at := spans(all)
			for i := 1; i < len(at); i++ {
				if at[i-1][1] > at[i][0] {
					t.Fatalf("%v, %.20q: two answers share memory", c, s)
				}
			}
		}
	}
}

// Not even the spare memory of a list is another one's.
func TestListsAreMemoryOfTheirOwn(t *testing.T) {
	c := api.Cut{Min: 16, Max: 64, Bits: 3}
	for _, ask := range []func() []string{
		func() []string { l, _ := chunk.Cut(c, odd(1, 300)); return l },
		func() []string { l, _ := chunk.Fixed(7, odd(1, 300)); return l },
		func() []string { l, _, _ := chunk.Feed(c, odd(1, 150), odd(1, 300)); return l },
	} {
		first := ask()
		want := slices.Clone(first)
		second := ask()
		for i := range second[:cap(second)] {
			second[:cap(second)][i] = "other"
		}
		if third := ask(); !slices.Equal(first, want) || !slices.Equal(third, want) {
			t.Error("two answers share a list's memory")
		}
	}
}

func FuzzTexts(f *testing.F) {
	for _, c := range cuts {
		f.Add(c.c.Min, c.c.Max, c.c.Bits, c.s, "", 100)
		f.Add(c.c.Min, c.c.Max, c.c.Bits, "ahead", c.s, 1000)
	}
	f.Fuzz(func(t *testing.T, small, large, bits int, held, more string, most int) {
		checkCalls(t, api.Cut{Min: small, Max: large, Bits: bits}, held, more, most)
		checkFixed(t, small, held)
		checkFixed(t, most, more)
		// Most of the numbers that come are wrong ones: these are right.
		c := api.Cut{Min: 16 + small&63, Bits: 1 + bits&7}
		c.Max = c.Min + large&127
		checkCalls(t, c, held, more, most&8191)
	})
}
