package names_test

import (
	"hash/crc32"
	"strings"
	"testing"

	"lumberroom/api"
	"lumberroom/names"
)

// eachText tells all texts of up to n of these parts behind head.
func eachText(head string, of []string, n int, tell func(string)) {
	tell(head)
	if n == 0 {
		return
	}
	for _, part := range of {
		eachText(head+part, of, n-1, tell)
	}
}

// bytesOf are the bytes of s, each as a text.
func bytesOf(s string) []string {
	var l []string
	for i := range len(s) {
		l = append(l, s[i:i+1])
	}
	return l
}

func allBytes() []string {
	var b [256]byte
	for i := range b {
		b[i] = byte(i)
	}
	return bytesOf(string(b[:]))
}

// edgeBytes are those around which UTF-8 and the rules of names turn.
const edgeBytes = "\x00\x1f\x20./\x7e\x7f\x80\x8f\x90\x9f\xa0\xbf\xc0\xc1\xc2\xdf\xe0\xe1\xec\xed\xee\xef\xf0\xf1\xf3\xf4\xf5\xf8\xff"

// longParts make names of about as many characters as there may be.
var longParts = []string{strings.Repeat("a", 23), "\xc3\xb6", "\xf0\x9f\x98\x80", "\xff", ".", "/", "\x7f"}

// slowLength is how many bytes the character at the front of s has, by
// Unicode's table of well-formed bytes, and 0 if they are none.
func slowLength(s string) int {
	for _, row := range []struct{ first, second, more string }{
		{"\x00\x7f", "", ""},
		{"\xc2\xdf", "\x80\xbf", ""},
		{"\xe0\xe0", "\xa0\xbf", "1"},
		{"\xe1\xec", "\x80\xbf", "1"},
		{"\xed\xed", "\x80\x9f", "1"},
		{"\xee\xef", "\x80\xbf", "1"},
		{"\xf0\xf0", "\x90\xbf", "12"},
		{"\xf1\xf3", "\x80\xbf", "12"},
		{"\xf4\xf4", "\x80\x8f", "12"},
	} {
		bounds := []string{row.first}
		if row.second != "" {
			bounds = append(bounds, row.second)
		}
		for range row.more {
			bounds = append(bounds, "\x80\xbf")
		}
		if fits(s, bounds) {
			return len(bounds)
		}
	}
	return 0
}

// fits: each byte from the front of s is within the bounds for it.
func fits(s string, bounds []string) bool {
	if len(s) < len(bounds) {
		return false
	}
	for i, b := range bounds {
		if s[i] < b[0] || s[i] > b[1] {
			return false
		}
	}
	return true
}

// slowCheck goes by bytes.
func slowCheck(name string) api.Errno {
	if name == "" || name == "." || name == ".." {
		return api.ErrName
	}
	count := 0
	for left := name; left != ""; count++ {
		n := slowLength(left)
		if n == 0 || n == 1 && (left[0] < 0x20 || left[0] == 0x2f || left[0] == 0x7f) {
			return api.ErrName
		}
		left = left[n:]
	}
	if count >= 25 {
		return api.ErrLarge
	}
	return api.OK
}

func checkCheck(t *testing.T, name string) {
	t.Helper()
	if got, want := names.Check(name), slowCheck(name); got != want {
		t.Fatalf("Check(%.60q) = %v, want %v", name, got, want)
	}
}

var someNames = []struct {
	name string
	want api.Errno
}{
	{"a", api.OK},
	{"/", api.ErrName},
	{"", api.ErrName},
	// Dots.
	{".", api.ErrName},
	{"..", api.ErrName},
	{"...", api.OK},
	{".a", api.OK},
	{"..a", api.OK},
	{"a.", api.OK},
	{"a..", api.OK},
	{". ", api.OK},
	{" .", api.OK},
	// Slashes.
	{"a/b", api.ErrName},
	{"/a", api.ErrName},
	{"a/", api.ErrName},
	{"\xe2\x88\x95", api.OK},
	{"a\\b", api.OK},
	// What is shown, and what is not.
	{"\x00", api.ErrName},
	{"a\x00", api.ErrName},
	{"\n", api.ErrName},
	{"\tb", api.ErrName},
	{"\x1f", api.ErrName},
	{" ", api.OK},
	{"~", api.OK},
	{"\x7f", api.ErrName},
	{"a\x7fb", api.ErrName},
	{"\xc2\x80", api.OK},
	{"\xc2\x85", api.OK},
	{"\xc2\x9f", api.OK},
	{"*?[]!:|<>\"'", api.OK},
	// Bytes that are no UTF-8.
	{"\x80", api.ErrName},
	{"\xff", api.ErrName},
	{"a\xff", api.ErrName},
	{"\xffa", api.ErrName},
	{"\xc3", api.ErrName},
	{"\xc3a", api.ErrName},
	{"\xc3\xb6", api.OK},
	{"\xb6\xc3", api.ErrName},
	{"\xc3\xb6\xb6", api.ErrName},
	{"\xe2\x82", api.ErrName},
	{"\xe2\x82\xac", api.OK},
	{"\xf0\x9f\x98", api.ErrName},
	{"\xf0\x9f\x98\x80", api.OK},
	// The character that stands for wrong bytes is a right one.
	{"\xef\xbf\xbd", api.OK},
	{"a\xef\xbf\xbdb", api.OK},
	{"\xef\xbf\xbd\xff", api.ErrName},
	{"\xff\xef\xbf\xbd", api.ErrName},
	// Forms that are not the shortest.
	{"\xc0\x80", api.ErrName},
	{"\xc0\xaf", api.ErrName},
	{"\xc1\xbf", api.ErrName},
	{"\xe0\x80\xaf", api.ErrName},
	{"\xe0\x9f\xbf", api.ErrName},
	{"\xe0\xa0\x80", api.OK},
	{"\xf0\x80\x80\xaf", api.ErrName},
	{"\xf0\x8f\xbf\xbf", api.ErrName},
	{"\xf0\x90\x80\x80", api.OK},
	// Surrogates.
	{"\xed\x9f\xbf", api.OK},
	{"\xed\xa0\x80", api.ErrName},
	{"\xed\xbf\xbf", api.ErrName},
	{"\xed\xa0\xbd\xed\xb8\x80", api.ErrName},
	{"\xee\x80\x80", api.OK},
	// The last characters.
	{"\xef\xbf\xbf", api.OK},
	{"\xf4\x8f\xbf\xbf", api.OK},
	{"\xf4\x90\x80\x80", api.ErrName},
	{"\xf5\x80\x80\x80", api.ErrName},
	{"\xf8\x88\x80\x80\x80", api.ErrName},
	{"\xfc\x84\x80\x80\x80\x80", api.ErrName},
	{"\xfe", api.ErrName},
	// How many characters.
	{strings.Repeat("a", 23), api.OK},
	{strings.Repeat("a", 24), api.OK},
	{strings.Repeat("a", 25), api.ErrLarge},
	{strings.Repeat(".", 24), api.OK},
	{strings.Repeat(".", 25), api.ErrLarge},
	{strings.Repeat("\xc3\xb6", 24), api.OK},
	{strings.Repeat("\xc3\xb6", 25), api.ErrLarge},
	{strings.Repeat("\xe2\x82\xac", 24), api.OK},
	{strings.Repeat("\xe2\x82\xac", 25), api.ErrLarge},
	{strings.Repeat("\xf0\x9f\x98\x80", 24), api.OK},
	{strings.Repeat("\xf0\x9f\x98\x80", 25), api.ErrLarge},
	{strings.Repeat("\xef\xbf\xbd", 24), api.OK},
	{strings.Repeat("\xef\xbf\xbd", 25), api.ErrLarge},
	{strings.Repeat("o\xcc\x88", 12), api.OK},
	{strings.Repeat("o\xcc\x88", 12) + "o", api.ErrLarge},
	{strings.Repeat("a", 1<<20), api.ErrLarge},
	// What is wrong comes ahead of what is too long.
	{strings.Repeat("a", 25) + "/", api.ErrName},
	{strings.Repeat("a", 30) + "\x1f", api.ErrName},
	{strings.Repeat("a", 30) + "\x7f", api.ErrName},
	{strings.Repeat("a", 30) + "\xff", api.ErrName},
	{strings.Repeat("\xf0\x9f\x98\x80", 30) + "\xf0\x9f\x98", api.ErrName},
	{"\x00" + strings.Repeat("a", 30), api.ErrName},
	{strings.Repeat("/", 25), api.ErrName},
	{strings.Repeat("\xff", 25), api.ErrName},
	{strings.Repeat("a", 1<<20) + "\xed\xa0\x80", api.ErrName},
}

func TestCheck(t *testing.T) {
	for _, c := range someNames {
		if got := names.Check(c.name); got != c.want {
			t.Errorf("Check(%.60q) = %v, want %v", c.name, got, c.want)
		}
		checkCheck(t, c.name)
	}
}

// Every number that may be a character's, written out bit by bit.
func TestCheckOfEachCharacter(t *testing.T) {
	for n := range 1 << 21 {
		bad := n < 32 || n == '/' || n == '.' || n == 127 || n >= 0xd800 && n <= 0xdfff || n > 0x10ffff
		for _, form := range formsOf(n) {
			want := api.OK
			if bad || !form.shortest {
				want = api.ErrName
			}
			if got := names.Check(form.s); got != want {
				t.Fatalf("Check(%x) = %v, want %v", form.s, got, want)
			}
		}
	}
}

type form struct {
	s        string
	shortest bool
}

// formsOf are all ways to write n in up to four bytes.
func formsOf(n int) []form {
	var l []form
	tail := func(by int) byte { return 0x80 | byte(n>>by)&0x3f }
	add := func(fits bool, b ...byte) {
		if fits {
			l = append(l, form{string(b), len(l) == 0})
		}
	}
	add(n < 1<<7, byte(n))
	add(n < 1<<11, 0xc0|byte(n>>6), tail(0))
	add(n < 1<<16, 0xe0|byte(n>>12), tail(6), tail(0))
	add(n < 1<<21, 0xf0|byte(n>>18), tail(12), tail(6), tail(0))
	return l
}

func TestCheckCountsCharacters(t *testing.T) {
	kinds := []string{"a", "\xc3\xb6", "\xe2\x82\xac", "\xf0\x9f\x98\x80", "\xef\xbf\xbd"}
	for _, a := range kinds {
		for _, b := range kinds {
			for count := 1; count < 60; count++ {
				for most := range count + 1 {
					want := api.OK
					if count > 24 {
						want = api.ErrLarge
					}
					name := strings.Repeat(a, most) + strings.Repeat(b, count-most)
					if got := names.Check(name); got != want {
						t.Fatalf("Check of %d characters, %q = %v, want %v", count, name, got, want)
					}
				}
			}
		}
	}
}

// One wrong part is told wherever it stands.
func TestCheckLooksAtEachPlace(t *testing.T) {
	for _, wrong := range []string{"/", "\x00", "\x1f", "\x7f", "\xff", "\x80", "\xc3", "\xc0\xaf", "\xed\xa0\x80", "\xf4\x90\x80\x80"} {
		for _, c := range []string{"a", "\xc3\xb6", "\xf0\x9f\x98\x80"} {
			for ahead := range 40 {
				for _, behind := range []int{0, 1, 5, 40} {
					name := strings.Repeat(c, ahead) + wrong + strings.Repeat(c, behind)
					if got := names.Check(name); got != api.ErrName {
						t.Fatalf("Check(%q) = %v", name, got)
					}
				}
			}
		}
	}
}

// These were worked out by another program.
func TestCheckOfMany(t *testing.T) {
	for i, c := range []struct {
		parts    []string
		most     int
		count    int
		checksum uint32
	}{
		{allBytes(), 2, 65793, 0x0f1f8ac6},
		{bytesOf(edgeBytes), 4, 837931, 0xf3371184},
		{longParts, 5, 19608, 0x75ab5f46},
	} {
		var answers []byte
		eachText("", c.parts, c.most, func(s string) {
			checkCheck(t, s)
			answers = append(answers, byte(names.Check(s)))
		})
		if sum := crc32.ChecksumIEEE(answers); len(answers) != c.count || sum != c.checksum {
			t.Errorf("case %d: %d answers, checksum %x, want %d, %x", i, len(answers), sum, c.count, c.checksum)
		}
	}
}
