package press

import (
	"slices"
	"testing"

	"lumberroom/api"
	"lumberroom/huff"
)

// Each code of up to ten bits, and some longer ones, is asked for.
func TestBookFindsJustTheCodesThatThereAre(t *testing.T) {
	for _, lengths := range [][]int{
		{0}, {1}, {1, 1}, {1, 2, 2}, {2, 2, 1}, {3, 1, 2, 3}, {0, 3, 0, 3}, {5, 2, 9}, {9, 0, 9, 9, 4, 4}, {48, 1}, {48, 48, 2}, slices.Repeat([]int{8}, 256),
	} {
		codes, _ := huff.Codes(lengths)
		book, err := makeBook(lengths)
		if err != api.OK {
			t.Fatalf("%v: %v", lengths, err)
		}
		for n := 1; n <= api.MaxBits; n++ {
			for code := range 1 << min(n, 10) {
				checkFind(t, book, lengths, codes, code, n)
				checkFind(t, book, lengths, codes, 1<<n-1-code, n)
			}
		}
		for sign, n := range lengths {
			checkFind(t, book, lengths, codes, codes[sign], max(n, 1))
		}
	}
}

func checkFind(t *testing.T, book *codeBook, lengths, codes []int, code, bits int) {
	t.Helper()
	want := -1
	for sign, n := range lengths {
		if n == bits && codes[sign] == code {
			want = sign
		}
	}
	sign, found := book.find(code, bits)
	if found != (want >= 0) || found && int(sign) != want {
		t.Errorf("%v: the code %b of %d bits is %d, %v, want %d", lengths, code, bits, sign, found, want)
	}
}

func TestBookRefusesTooManyCodes(t *testing.T) {
	for _, lengths := range [][]int{{1, 1, 1}, {1, 1, 48}, slices.Repeat([]int{7}, 129)} {
		if book, err := makeBook(lengths); book != nil || err != api.ErrForm {
			t.Errorf("%v: %v", lengths, err)
		}
	}
}
