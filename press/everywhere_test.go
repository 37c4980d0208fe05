package press_test

import (
	"strings"
	"testing"
	"unsafe"

	"lumberroom/api"
	"lumberroom/press"
)

// checkCalls: whatever s is, both calls answer what they should, the same each
// time.
func checkCalls(t *testing.T, s string) {
	t.Helper()
	for range 2 {
		if len(s) <= api.MaxFile {
			checkPress(t, s)
		} else if got, err := press.Press(s); got != "" || err != api.ErrLarge {
			t.Errorf("Press(%d bytes): %d bytes, %v, want %v alone", len(s), len(got), err, api.ErrLarge)
		}
		checkOpen(t, s)
	}
}

// someForms are texts for Open, right ones and wrong ones.
func someForms() []string {
	var all []string
	for _, c := range opened {
		all = append(all, c.form)
	}
	for _, c := range refused {
		all = append(all, c.form)
	}
	return all
}

func TestCallsAnswerAnything(t *testing.T) {
	for _, s := range someForms() {
		checkCalls(t, s)
	}
	for _, s := range someTexts() {
		checkCalls(t, s)
		checkCalls(t, "\x01"+s)
		checkCalls(t, "\x01\x02\x10\x00\x02\x20\x00\x02\x01\x00"+s)
		checkCalls(t, coded(4096, 5000, every8(), "")+s)
	}
	for seed := range 200 {
		checkCalls(t, odd(seed, seed))
		checkCalls(t, "\x01"+few(seed, seed, 3))
		checkCalls(t, coded(seed, 2*seed, "\x00\x01\x01\x02\x02\x03a\x03", "")+odd(seed, seed))
		checkCalls(t, coded(seed, seed, "\x00\x02\x01\x02a\x03", "")+odd(seed, seed))
	}
	for _, s := range []string{"\x00", "\x01", "\x02", "\xff"} {
		checkCalls(t, strings.Repeat(s, 1<<16))
	}
}

func TestCallsKeepNothing(t *testing.T) {
	s := few(3, 1000, 5)
	form, _ := press.Press(s)
	kept := strings.Clone(form)
	for _, other := range someForms() {
		press.Press(other)
		press.Open(other)
	}
	again, _ := press.Press(s)
	if form != kept {
		t.Error("an answer was changed by what was asked behind it")
	}
	if again != kept {
		t.Error("what was asked in between is to be seen in the answer")
	}
	checkOpens(t, kept, s)
}

// inMemory is s in memory that can be written to, with more behind it.
func inMemory(s string) (string, []byte) {
	memory := []byte(s + "behind it")
	return unsafe.String(unsafe.SliceData(memory), len(s)), memory
}

// checkMemory: the memory of s is not changed, and the answer's is another.
func checkMemory(t *testing.T, call func(string) (string, api.Errno), s string) {
	t.Helper()
	text, memory := inMemory(s)
	got, _ := call(text)
	if string(memory) != s+"behind it" {
		t.Fatalf("the memory of %.20q was changed", s)
	}
	kept := strings.Clone(got)
	for i := range memory {
		memory[i] ^= 255
	}
	if got != kept {
		t.Errorf("what is answered to %.20q changes with its memory", s)
	}
}

func TestTextsAreNotChangedAndNotKept(t *testing.T) {
	for _, s := range someTexts() {
		checkMemory(t, press.Press, s)
		checkMemory(t, press.Open, "\x00"+s)
		checkMemory(t, press.Open, slowCoded(s))
	}
	for _, s := range someForms() {
		checkMemory(t, press.Press, s)
		checkMemory(t, press.Open, s)
	}
}

func FuzzPress(f *testing.F) {
	f.Add("abcab\x00\x00\xffab", 30)
	f.Add("a", 17)
	f.Fuzz(func(t *testing.T, s string, times int) {
		checkCalls(t, s)
		if 0 < times && times*len(s) <= api.MaxFile && times <= api.MaxFile {
			checkCalls(t, strings.Repeat(s, times))
		}
	})
}

func FuzzOpen(f *testing.F) {
	for _, s := range someForms() {
		f.Add(s)
	}
	f.Fuzz(func(t *testing.T, s string) { checkOpen(t, s) })
}

// Parts that fit together leave more to be read than odd bytes do.
func FuzzCoded(f *testing.F) {
	f.Add(4, 5, "\x00\x02\x01\x02\x03\x02a\x02", "\x39\x00")
	f.Add(1, 2, "\x00\x30a\x30", "\x00\x00\x00\x00\x00\x00\x00\x00\x00\x00\x00\x01")
	f.Fuzz(func(t *testing.T, size, packed int, pairs, codes string) {
		checkOpen(t, coded(size, packed, pairs, "")+codes)
		checkOpen(t, coded(size&4095, packed&16383, risingPairs(pairs), "")+codes)
	})
}

// risingPairs keeps of each two bytes those that Open takes behind the ones ahead.
func risingPairs(s string) string {
	pairs := ""
	for ; len(s) >= 2; s = s[2:] {
		if pairs == "" || s[0] > pairs[len(pairs)-2] {
			pairs += string([]byte{s[0], 1 + s[1]%48})
		}
	}
	return pairs
}
