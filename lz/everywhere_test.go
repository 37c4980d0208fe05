package lz_test

import (
	"math"
	"slices"
	"strings"
	"testing"
	"unsafe"

	"lumberroom/api"
	"lumberroom/lz"
)

// slowCheck reads P15 word by word.
func slowCheck(l []api.Token) api.Errno {
	if len(l) > 4096 {
		return api.ErrLarge
	}
	for _, t := range l {
		letter := t.Len == 0 && t.Dist == 0
		copied := t.Lit == 0 && t.Len > 0 && t.Len < 256 && t.Dist > 0 && t.Dist < 1025
		if letter == copied { // it can't be both
			return api.ErrForm
		}
	}
	return api.OK
}

// slowExpand reads P16 word by word.
func slowExpand(l []api.Token, most int) (string, api.Errno) {
	if most < 0 || most > 4096 {
		return "", api.ErrArg
	}
	if err := slowCheck(l); err != api.OK {
		return "", err
	}
	made := ""
	for _, t := range l {
		more := string([]byte{t.Lit})
		if t.Len > 0 {
			if t.Dist > len(made) {
				return "", api.ErrForm
			}
			// What is copied again and again are the last Dist bytes.
			more = strings.Repeat(made[len(made)-t.Dist:], 1+t.Len/t.Dist)[:t.Len]
		}
		if len(made)+len(more) > most {
			return "", api.ErrLarge
		}
		made += more
	}
	return made, api.OK
}

// checkTokens: whatever is handed in, the calls answer what they should, the
// same each time, and leave the list as it was.
func checkTokens(t *testing.T, l []api.Token, most int) {
	t.Helper()
	kept := slices.Clone(l)
	for range 2 {
		want := slowCheck(kept)
		if err := lz.Check(l); err != want {
			t.Errorf("Check(%d tokens) = %v, want %v", len(l), err, want)
		}
		text, wantErr := slowExpand(kept, most)
		if s, err := lz.Expand(l, most); s != text || err != wantErr {
			t.Errorf("Expand(%d tokens, %d) = %.20q, %v, want %.20q, %v", len(l), most, s, err, text, wantErr)
		}
		s, err := lz.Pack(l)
		if err != want || err != api.OK && s != "" {
			t.Errorf("Pack(%d tokens) = %.20q, %v, want %v", len(l), s, err, want)
		}
		if again, e := lz.Read(s); err == api.OK && (!slices.Equal(again, kept) || e != api.OK) {
			t.Errorf("Read(Pack(%d tokens)): %d tokens, %v", len(l), len(again), e)
		}
	}
	if !slices.Equal(l, kept) {
		t.Errorf("a list of %d tokens was changed", len(l))
	}
}

// checkText: whatever s is, Greedy and Read answer, and what they take can be
// made again from the answer.
func checkText(t *testing.T, s string) {
	t.Helper()
	l, err := lz.Greedy(s)
	if len(s) > api.MaxFile && (l != nil || err != api.ErrLarge) || len(s) <= api.MaxFile && err != api.OK {
		t.Errorf("Greedy(%d bytes): %d tokens, %v", len(s), len(l), err)
	}
	if again, e := lz.Expand(l, api.MaxFile); err == api.OK && (again != s || e != api.OK) {
		t.Errorf("Expand(Greedy(%.20q)) = %.20q, %v", s, again, e)
	}
	if again, e := lz.Greedy(s); !slices.Equal(again, l) || e != err {
		t.Errorf("Greedy(%.20q) was answered otherwise the second time", s)
	}
	r, readErr := lz.Read(s)
	if readErr != api.OK && (r != nil || readErr != api.ErrShort && readErr != api.ErrForm && readErr != api.ErrLarge) {
		t.Errorf("Read(%.40q): %d tokens beside %v", s, len(r), readErr)
	}
	if again, e := lz.Pack(r); readErr == api.OK && (again != s || e != api.OK) {
		t.Errorf("Pack(Read(%.40q)) = %.40q, %v", s, again, e)
	}
	if again, e := lz.Read(s); !slices.Equal(again, r) || e != readErr {
		t.Errorf("Read(%.40q) was answered otherwise the second time", s)
	}
}

var wildNumbers = []int{math.MinInt, -1 << 32, -1, 0, 1, 2, 255, 256, 1024, 1025, 4096, 4097, 1<<32 + 1, math.MaxInt}

func TestCallsAnswerAnyTokens(t *testing.T) {
	for _, n := range wildNumbers {
		for _, dist := range wildNumbers {
			for _, most := range wildNumbers {
				for _, lit := range []byte{0, 1, 255} {
					wild := api.Token{Lit: lit, Len: n, Dist: dist}
					checkTokens(t, []api.Token{wild}, most)
					checkTokens(t, []api.Token{{Lit: 'a'}, {Lit: 'b'}, wild, {Lit: 'c'}, wild}, most)
				}
			}
		}
	}
	for _, most := range wildNumbers {
		checkTokens(t, nil, most)
		for _, c := range expansions {
			checkTokens(t, c.l, most)
		}
		for _, l := range tooMany() {
			checkTokens(t, l, most)
		}
	}
}

func TestCallsAnswerAnyText(t *testing.T) {
	for _, s := range someTexts() {
		checkText(t, s)
		l, _ := lz.Greedy(s)
		packed, _ := lz.Pack(l)
		checkText(t, packed)
		for i := 0; i < len(packed); i += 1 + len(packed)/7 {
			checkText(t, packed[:i])
			for _, c := range []byte{0, 1, 4, 5, 128, 255} {
				checkText(t, packed[:i]+string([]byte{c})+packed[i+1:])
			}
		}
	}
	for a := range 256 {
		checkText(t, string([]byte{byte(a)}))
		for b := range 256 {
			for _, tail := range []string{"", "\x00", "\x04", "\x05", "\x00\x00", "\x01\x00a"} {
				checkText(t, string([]byte{byte(a), byte(b)})+tail)
			}
		}
		checkText(t, strings.Repeat(string([]byte{byte(a)}), 1<<14))
	}
}

func TestCallsKeepNothing(t *testing.T) {
	s := few(3, 1000, 5)
	l, _ := lz.Greedy(s)
	packed, _ := lz.Pack(l)
	for _, other := range someTexts() {
		checkText(t, other)
	}
	for _, other := range tooMany() {
		checkTokens(t, other, 4096)
	}
	again, _ := lz.Greedy(s)
	packedAgain, _ := lz.Pack(l)
	read, _ := lz.Read(packed)
	made, _ := lz.Expand(l, 1000)
	if !slices.Equal(again, l) || packedAgain != packed || !slices.Equal(read, l) || made != s {
		t.Error("what was asked in between is to be seen in the answer")
	}
}

// inMemory is s in memory that can be written to, with more behind it.
func inMemory(s string) (string, []byte) {
	memory := []byte(s + "behind it")
	return unsafe.String(unsafe.SliceData(memory), len(s)), memory
}

func TestTextsAreNotChangedAndNotKept(t *testing.T) {
	for _, s := range someTexts() {
		text, memory := inMemory(s)
		l, _ := lz.Greedy(text)
		if string(memory) != s+"behind it" {
			t.Fatalf("Greedy changed the memory of %.20q", s)
		}
		clear(memory)
		if !slices.Equal(l, slowGreedy(s)) {
			t.Errorf("what Greedy(%.20q) answers changes with the text's memory", s)
		}
		packed, _ := lz.Pack(l)
		text, memory = inMemory(packed)
		read, _ := lz.Read(text)
		if string(memory) != packed+"behind it" {
			t.Fatalf("Read changed the memory of %.20q", packed)
		}
		clear(memory)
		if !slices.Equal(read, l) {
			t.Errorf("what Read(%.20q) answers changes with the text's memory", packed)
		}
	}
}

// Not even the spare memory of a list that is handed in is written to.
func TestListsAreNotChangedAndNotKept(t *testing.T) {
	mark := api.Token{Lit: 7, Len: 7, Dist: 7}
	for _, s := range someTexts() {
		right, _ := lz.Greedy(s)
		memory := tokens(right, many(10, mark))
		l := memory[:len(right)]
		packed, _ := lz.Pack(l)
		made, _ := lz.Expand(l, api.MaxFile)
		lz.Check(l)
		if !slices.Equal(memory, tokens(right, many(10, mark))) {
			t.Fatalf("the memory of a list of %d tokens was changed", len(right))
		}
		clear(memory)
		want, _ := lz.Pack(right)
		if made != s || packed != want {
			t.Errorf("%.20q: an answer changes with the list's memory", s)
		}
	}
}

// Not even the spare memory of an answered list is another one's.
func TestAnsweredListsAreMemoryOfTheirOwn(t *testing.T) {
	for _, s := range someTexts() {
		want := slowGreedy(s)
		packed, _ := lz.Pack(want)
		for _, ask := range []func() []api.Token{
			func() []api.Token { l, _ := lz.Greedy(s); return l },
			func() []api.Token { l, _ := lz.Read(packed); return l },
		} {
			first, second := ask(), ask()
			for i := range second[:cap(second)] {
				second[:cap(second)][i] = api.Token{Lit: 9, Len: 9, Dist: 9}
			}
			if third := ask(); !slices.Equal(first, want) || !slices.Equal(third, want) {
				t.Errorf("%.20q: two answers share a list's memory", s)
			}
		}
	}
}

func FuzzTexts(f *testing.F) {
	for _, c := range packings {
		f.Add(c.want)
	}
	f.Add("abcab\x00\x00\xffab")
	f.Fuzz(func(t *testing.T, s string) {
		checkText(t, s)
		if len(s) <= api.MaxFile {
			if l, _ := lz.Greedy(s); !slices.Equal(l, slowGreedy(s)) {
				t.Errorf("Greedy(%.40q) = %v, want %v", s, l, slowGreedy(s))
			}
		}
	})
}

// fuzzedTokens makes a token of each four bytes; small numbers, so that many
// of them are right.
func fuzzedTokens(s string) []api.Token {
	var l []api.Token
	for ; len(s) >= 4; s = s[4:] {
		t := letter(s[1])
		if s[0]%3 > 0 {
			t = copyOf(int(s[1])+int(s[0])/250, int(s[2])+int(s[3])<<8/64)
		}
		if s[0] == 255 {
			t.Lit = s[3]
		}
		l = append(l, t)
	}
	return l
}

func FuzzTokens(f *testing.F) {
	f.Add("\x00a\x00\x00\x01\x03\x01\x00\x00b\x00\x00", 5)
	f.Add("\x00a\x00\x00\x01\xff\x01\x00\x01\xff\x00\x02", 4096)
	f.Fuzz(func(t *testing.T, s string, most int) {
		checkTokens(t, fuzzedTokens(s), most)
		checkTokens(t, fuzzedTokens(s), most&4095)
	})
}
